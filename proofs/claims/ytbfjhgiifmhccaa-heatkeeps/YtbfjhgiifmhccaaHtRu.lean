/-
  heat: the statements' run.
  KEEP: set on app at below new trans refl start kept mono lt add none own nil put len pos other cell ty blt fz box k p r pr a0 a1 a2 c0 c1 c2 hb setK setP setR unique grown step fin bij up q1 q2 pl held mk v1 v2 t1 t2 hs few cut root z kl nl sl d1 d2 row down has holds stp bel heat mem srt inn inj out lays ap kind rd rds bump cool weak types foreign rows
-/
import Derived.Test.YtbfjhgiifmhccaaHtY
import Derived.Test.YtbfjhgiifmhccaaHeatBegins
set_option linter.unusedSimpArgs false
set_option linter.unusedVariables false
namespace Go.Proofs.Ytbfjhgiifmhccaa
open Go Go.RowKit

theorem coolS {w wx : World} {b n dec k : Nat} {u : Value} (h : RunS w wx b n dec u (k + 1)) :
    Calls Try.prog 24 #[.pointer (some ⟨b, 0, none⟩)] wx fun e w' => e = .returned (.tuple #[]) ∧ RunS w w' b n dec u (k + 1) := by
  obtain ⟨v, st, K, H, L, h1, h2, h3, h4, h5, h6, h7⟩ := h
  exact (cool_any wx h1).mono fun e w' hh => ⟨hh.1, v, _, _, H, L, hh.2.1, h2.cool h1.d1 h1.d2, rows_heat h3 h1 hh.2.2, h4, h5, fun e => by omega, Mf.bel h7 (fun i hi => (h1.lt i hi).1) hh.2.2⟩
set_option maxHeartbeats 4000000 in
theorem run_any (n0 : Int) (d : Nat) (vo : Value) (ops : List HOp) (w : World) (hd : d < 18446744073709551616) (hr : RdH w vo ops) :
    Calls Try.prog 16 #[.int .i64 n0, .float .f64 d, vo, .slice none 0 0] w fun e w' => ∃ b u dec, e = .returned (.tuple #[.pointer (some ⟨b, 0, none⟩), u]) ∧ RunS w w' b (pk14 n0 61) dec u ops.length := by
  have HP : Hid (∀ W, Calls Try.prog 9 #[.int .i64 n0, .int .i64 61] W fun e w' => e = .returned (.int .i64 (pk14 n0 61 : Nat)) ∧ w' = W) := fun W => pick14_any n0 61 W (by omega) (by omega)
  have hn61 := pk14_lt n0 (k := 61) (by omega)
  obtain ⟨n, hn⟩ : ∃ n, pk14 n0 61 = n := ⟨_, rfl⟩
  rw [hn] at HP hn61 ⊢
  clear hn
  have HPk : Hid (∀ (x : Int) W, Calls Try.prog 9 #[.int .i64 x, .int .i64 5] W fun e w' => e = .returned (.int .i64 (pk14 x 5 : Nat)) ∧ w' = W) := fun x W => pick14_any x 5 W (by omega) (by omega)
  have HPq : Hid (∀ (x : Int) W, Calls Try.prog 9 #[.int .i64 x, .int .i64 400] W fun e w' => e = .returned (.int .i64 (pk14 x 400 : Nat)) ∧ w' = W) := fun x W => pick14_any x 400 W (by omega) (by omega)
  obtain ⟨ao, co, eo, ho1, ho2, ho3, ho4⟩ := hr
  subst eo
  have HC : Hid (∀ (W : World) (j : Nat) (hj : j < ops.length), Below w.heap.size w W → ∃ b off, ao = some ⟨b, off, none⟩ ∧ W.cell? ⟨b, off + j * 3 + 1, none⟩ = some (.int .i64 ops[j].kind) ∧ W.cell? ⟨b, off + j * 3 + 2, none⟩ = some (.int .i64 ops[j].n)) := fun W j hj hW => by
    obtain ⟨b, off, e1, hl, c0, c1, c2⟩ := ho4 j hj
    have hc : ∀ o, W.cell? ⟨b, o, none⟩ = w.cell? ⟨b, o, none⟩ := fun o => hW.cell (p := ⟨b, o, none⟩) hl
    exact ⟨b, off, e1, by rw [hc]; exact c1, by rw [hc]; exact c2⟩
  clear ho4
  have hge := ge_swap14 d 4602678819172646912
  have hle : (FloatKind.f64.format.order d 4607182418800017408 == some .lt || FloatKind.f64.format.order d 4607182418800017408 == some .eq) = leF d 4607182418800017408 := rfl
  have HNew : Hid (∀ d', d' < 18446744073709551616 → dcB d' = true → Calls Try.prog 10 #[.int .i64 (n : Int), .float .f64 d'] w fun e w' => NewS w n d' e w') := fun d' h1 h2 => new_yes n d' w (by omega) h1 h2
  have HD95 : Hid (dcB 4606732058837280358 = true) := by show _ = _; decide +kernel
  obtain ⟨i0, hi0, hz0, hz1, hz2⟩ := info_parts info_ii
  have HI : Hid (Try.prog.info? 52 = some i0 ∧ i0.zero = some (.slice none 0 0) ∧ i0.size = 1 ∧ i0.bytes = 24) := ⟨hi0, hz0, hz1, hz2⟩
  clear hi0 hz0 hz1 hz2
  cases h1 : leF 4602678819172646912 d
  · rw [h1] at hge
    clear hle h1
    have HN1 : Hid (Calls Try.prog 10 #[.int .i64 (n : Int), .float .f64 4606732058837280358] w fun e w' => NewS w n 4606732058837280358 e w') := HNew.out 4606732058837280358 (by omega) HD95.out
    clear HNew
    go_enter Try.func16, Try.ntmps16
    go_wp2_with (first | (go_at_call 9; refine (HP.out _).mono ?_; rintro e w' ⟨rfl, hw'⟩; have hw'' := hw'.symm; clear hw'; subst hw'') | (go_at_call 10; refine HN1.out.mono ?_; rintro e w1 ⟨b, v, rfl, ht, hb⟩; have HR0 : Hid (RunS w w1 b n 4606732058837280358 (.slice none 0 0) 0) := ⟨v, _, _, _, [], ht, Bnd.start n, OwnR.nil _ _, Nat.le_refl _, fun x hx => (by cases hx), fun _ => rfl, hb⟩; clear ht hb))
    clear HN1 HP HD95
    try clear hge hle
    go_loopg [3, 12] ops.length (fun q x y wx => ∃ (i : Nat) (a : Option Addr) (l c : Nat), i + q = ops.length ∧ x = .slice a l c ∧ y = .int .i64 (i : Int) ∧ Hid (RunS w wx b n 4606732058837280358 (.slice a l c) i))
    case atStart => exact ⟨0, none, 0, 0, by omega, rfl, rfl, HR0⟩
    case round =>
      obtain ⟨i, a, l, c, hi, rfl, rfl, H1⟩ := hrel
      clear HR0
      by_cases hlt : i < ops.length
      · obtain ⟨bo, off, rfl, c1, c2⟩ := HC.out wr i hlt H1.out.bel
        have hgk : ops.length - (i + 1) < gk := by omega
        have HKN : Hid (i + 1 + (ops.length - (i + 1)) = ops.length) := by show _ = _; omega
        have HPi : Hid (Calls Try.prog 9 #[.int .i64 ops[i].kind, .int .i64 5] wr fun e w' => e = .returned (.int .i64 (pk14 ops[i].kind 5 : Nat)) ∧ w' = wr) := HPk.out _ _
        have hp5 := pk14_lt ops[i].kind (k := 5) (by omega)
        obtain ⟨p, hp⟩ : ∃ p, pk14 ops[i].kind 5 = p := ⟨_, rfl⟩
        rw [hp] at HPi hp5
        clear hp
        have HC2 : Hid (∀ W, Below w.heap.size w W → W.cell? ⟨bo, off + i * 3 + 2, none⟩ = some (.int .i64 ops[i].n)) := fun W hW => by
          obtain ⟨b', off', e', _, d2⟩ := HC.out W i hlt hW
          injection e' with e'
          injection e' with e1 e2
          subst e1; subst e2
          exact d2
        clear HC HPk
        generalize ops[i].n = x at *
        generalize ops[i].kind = kd at *
        rcases (show p = 0 ∨ p = 1 ∨ p = 2 ∨ p = 3 ∨ p = 4 by omega) with rfl | rfl | rfl | rfl | rfl
        · go_wp2_with (first | (go_at_call 9; refine HPi.out.mono ?_; rintro e w' ⟨rfl, hw'⟩; have hw'' := hw'.symm; clear hw'; subst hw'') | (go_at_call 23; refine Calls.mono (bumpR _ H1.out) ?_; rintro e w2 ⟨⟨z, rfl⟩, h2⟩; have RR : Hid (RunS w w2 b n 4606732058837280358 (.slice a l c) (i + 1)) := h2; clear h2))
          go_roundg (ops.length - (i + 1))
          case rel => exact ⟨i + 1, _, _, _, HKN.out, rfl, by simp, RR⟩
          case measure => exact hgk
        · have HW1 : Hid (RunS w wr b n 4606732058837280358 (.slice a l c) (i + 1)) := H1.out.weak
          have HPx : Hid (∀ W, Calls Try.prog 9 #[.int .i64 x, .int .i64 400] W fun e w' => e = .returned (.int .i64 (pk14 x 400 : Nat)) ∧ w' = W) := fun W => HPq.out x W
          have hM := pk14_lt x (k := 400) (by omega)
          generalize pk14 x 400 = M at *
          clear c2 HPq H1
          go_wp2_with (go_at_call 9; refine HPi.out.mono ?_; rintro e w' ⟨rfl, hw'⟩; have hw'' := hw'.symm; clear hw'; subst hw'')
          go_loopg [13] M (fun q y wx => ∃ k : Nat, k + q = M ∧ y = .int .i64 (k : Int) ∧ Hid (RunS w wx b n 4606732058837280358 (.slice a l c) (i + 1)))
          case atStart => exact ⟨0, by omega, rfl, HW1⟩
          case round =>
            obtain ⟨k, hk, rfl, H2⟩ := hrel
            clear HW1
            have c2 := HC2.out _ H2.out.bel
            by_cases hkM : k < M
            · have hgi : M - (k + 1) < gk := by omega
              have HKM : Hid (k + 1 + (M - (k + 1)) = M) := by show _ = _; omega
              go_wp2_with (first | (go_at_call 9; refine (HPx.out _).mono ?_; rintro e w' ⟨rfl, hw'⟩; have hw'' := hw'.symm; clear hw'; subst hw'') | (go_at_call 24; refine Calls.mono (coolS H2.out) ?_; rintro e w2 ⟨rfl, h2⟩; have RR : Hid (RunS w w2 b n 4606732058837280358 (.slice a l c) (i + 1)) := h2; clear h2))
              go_roundg (M - (k + 1))
              case rel => exact ⟨k + 1, HKM.out, by simp, RR⟩
              case measure => exact hgi
            · have hkM2 : ¬ ((k : Int) < (M : Int)) := by omega
              go_wp2_with (go_at_call 9; refine (HPx.out _).mono ?_; rintro e w' ⟨rfl, hw'⟩; have hw'' := hw'.symm; clear hw'; subst hw'')
              go_roundg (ops.length - (i + 1))
              case rel => exact ⟨i + 1, _, _, _, HKN.out, rfl, by simp, H2⟩
              case measure => exact hgk
        · go_wp2_with (first | (go_at_call 9; refine HPi.out.mono ?_; rintro e w' ⟨rfl, hw'⟩; have hw'' := hw'.symm; clear hw'; subst hw'') | (go_at_call 20; refine Calls.mono (takeR H1.out) ?_; rintro e w2 ⟨⟨z, q, rfl⟩, h2⟩; have RR : Hid (RunS w w2 b n 4606732058837280358 (.slice a l c) (i + 1)) := h2; clear h2))
          go_roundg (ops.length - (i + 1))
          case rel => exact ⟨i + 1, _, _, _, HKN.out, rfl, by simp, RR⟩
          case measure => exact hgk
        · go_wp2_with (first | (go_at_call 9; refine HPi.out.mono ?_; rintro e w' ⟨rfl, hw'⟩; have hw'' := hw'.symm; clear hw'; subst hw'') | (go_at_call 21; refine Calls.mono (hputR _ H1.out) ?_; rintro e w2 ⟨⟨z, rfl⟩, h2⟩; have RR : Hid (RunS w w2 b n 4606732058837280358 (.slice a l c) (i + 1)) := h2; clear h2))
          go_roundg (ops.length - (i + 1))
          case rel => exact ⟨i + 1, _, _, _, HKN.out, rfl, by simp, RR⟩
          case measure => exact hgk
        · have hl63 : l ≤ i → l + 1 ≤ maxLen := fun h => by unfold maxLen; omega
          have hl48 : l ≤ i → (l + 1) * 24 ≤ 140737488355328 := fun h => by omega
          have HLB : Hid ((l ≤ i → l + 1 ≤ maxLen) ∧ (l ≤ i → (l + 1) * 24 ≤ 140737488355328)) := ⟨hl63, hl48⟩
          clear hl63 hl48
          go_wp2_with (first | (go_at_call 9; refine HPi.out.mono ?_; rintro e w' ⟨rfl, hw'⟩; have hw'' := hw'.symm; clear hw'; subst hw'') | (go_at_call 17; refine Calls.mono (orderR H1.out (by omega)) ?_; rintro e w2 ⟨a2, l2, c2', rfl, h2⟩; have HA : Hid (AppR w w2 b n 4606732058837280358 a l c i a2 l2 c2') := h2; clear h2) | (at_builtin; obtain ⟨xs, x1, x2, x3, x4⟩ := HA.out; refine wpList_append_apk rfl _ _ 49 rfl w.heap.size 52 i0 (.slice none 0 0) 1 24 Try.underlying49 HI.out.1 HI.out.2.1 HI.out.2.2.1 HI.out.2.2.2 rfl (by decide) (.slice a l c) l xs rfl x1 ⟨w2.heap.size, 0, none⟩ 1 1 [.slice a2 l2 c2'] rfl rfl (cell_one_new _ _ _) (by simp [Value.oneCell']) (HLB.out.1 x3) (HLB.out.2 x3) x2 ?_; intro v8 w8 own8 ap8; obtain ⟨⟨a8, c8, hv8⟩, q8⟩ := x4 v8 w8 own8 ap8; subst hv8; have RR : Hid (RunS w w8 b n 4606732058837280358 (.slice a8 (l + 1) c8) (i + 1)) := q8; clear own8 ap8 q8 x1 x2 x3 x4))
          go_roundg (ops.length - (i + 1))
          case rel => exact ⟨i + 1, _, _, _, HKN.out, rfl, by simp, RR⟩
          case measure => exact hgk
      · have hie : i = ops.length := by omega
        have HF : Hid (RunS w wr b n 4606732058837280358 (.slice a l c) ops.length) := by rw [← hie]; exact H1.out
        clear H1 HC
        go_wp2
        go_returns
        exact ⟨b, _, _, rfl, HF.out⟩
  · cases h2 : leF d 4607182418800017408
    · rw [h1] at hge
      rw [h2] at hle
      clear h1 h2
      have HN1 : Hid (Calls Try.prog 10 #[.int .i64 (n : Int), .float .f64 4606732058837280358] w fun e w' => NewS w n 4606732058837280358 e w') := HNew.out 4606732058837280358 (by omega) HD95.out
      clear HNew
      go_enter Try.func16, Try.ntmps16
      go_wp2_with (first | (go_at_call 9; refine (HP.out _).mono ?_; rintro e w' ⟨rfl, hw'⟩; have hw'' := hw'.symm; clear hw'; subst hw'') | (go_at_call 10; refine HN1.out.mono ?_; rintro e w1 ⟨b, v, rfl, ht, hb⟩; have HR0 : Hid (RunS w w1 b n 4606732058837280358 (.slice none 0 0) 0) := ⟨v, _, _, _, [], ht, Bnd.start n, OwnR.nil _ _, Nat.le_refl _, fun x hx => (by cases hx), fun _ => rfl, hb⟩; clear ht hb))
      clear HN1 HP HD95
      try clear hge hle
      go_loopg [3, 12] ops.length (fun q x y wx => ∃ (i : Nat) (a : Option Addr) (l c : Nat), i + q = ops.length ∧ x = .slice a l c ∧ y = .int .i64 (i : Int) ∧ Hid (RunS w wx b n 4606732058837280358 (.slice a l c) i))
      case atStart => exact ⟨0, none, 0, 0, by omega, rfl, rfl, HR0⟩
      case round =>
        obtain ⟨i, a, l, c, hi, rfl, rfl, H1⟩ := hrel
        clear HR0
        by_cases hlt : i < ops.length
        · obtain ⟨bo, off, rfl, c1, c2⟩ := HC.out wr i hlt H1.out.bel
          have hgk : ops.length - (i + 1) < gk := by omega
          have HKN : Hid (i + 1 + (ops.length - (i + 1)) = ops.length) := by show _ = _; omega
          have HPi : Hid (Calls Try.prog 9 #[.int .i64 ops[i].kind, .int .i64 5] wr fun e w' => e = .returned (.int .i64 (pk14 ops[i].kind 5 : Nat)) ∧ w' = wr) := HPk.out _ _
          have hp5 := pk14_lt ops[i].kind (k := 5) (by omega)
          obtain ⟨p, hp⟩ : ∃ p, pk14 ops[i].kind 5 = p := ⟨_, rfl⟩
          rw [hp] at HPi hp5
          clear hp
          have HC2 : Hid (∀ W, Below w.heap.size w W → W.cell? ⟨bo, off + i * 3 + 2, none⟩ = some (.int .i64 ops[i].n)) := fun W hW => by
            obtain ⟨b', off', e', _, d2⟩ := HC.out W i hlt hW
            injection e' with e'
            injection e' with e1 e2
            subst e1; subst e2
            exact d2
          clear HC HPk
          generalize ops[i].n = x at *
          generalize ops[i].kind = kd at *
          rcases (show p = 0 ∨ p = 1 ∨ p = 2 ∨ p = 3 ∨ p = 4 by omega) with rfl | rfl | rfl | rfl | rfl
          · go_wp2_with (first | (go_at_call 9; refine HPi.out.mono ?_; rintro e w' ⟨rfl, hw'⟩; have hw'' := hw'.symm; clear hw'; subst hw'') | (go_at_call 23; refine Calls.mono (bumpR _ H1.out) ?_; rintro e w2 ⟨⟨z, rfl⟩, h2⟩; have RR : Hid (RunS w w2 b n 4606732058837280358 (.slice a l c) (i + 1)) := h2; clear h2))
            go_roundg (ops.length - (i + 1))
            case rel => exact ⟨i + 1, _, _, _, HKN.out, rfl, by simp, RR⟩
            case measure => exact hgk
          · have HW1 : Hid (RunS w wr b n 4606732058837280358 (.slice a l c) (i + 1)) := H1.out.weak
            have HPx : Hid (∀ W, Calls Try.prog 9 #[.int .i64 x, .int .i64 400] W fun e w' => e = .returned (.int .i64 (pk14 x 400 : Nat)) ∧ w' = W) := fun W => HPq.out x W
            have hM := pk14_lt x (k := 400) (by omega)
            generalize pk14 x 400 = M at *
            clear c2 HPq H1
            go_wp2_with (go_at_call 9; refine HPi.out.mono ?_; rintro e w' ⟨rfl, hw'⟩; have hw'' := hw'.symm; clear hw'; subst hw'')
            go_loopg [13] M (fun q y wx => ∃ k : Nat, k + q = M ∧ y = .int .i64 (k : Int) ∧ Hid (RunS w wx b n 4606732058837280358 (.slice a l c) (i + 1)))
            case atStart => exact ⟨0, by omega, rfl, HW1⟩
            case round =>
              obtain ⟨k, hk, rfl, H2⟩ := hrel
              clear HW1
              have c2 := HC2.out _ H2.out.bel
              by_cases hkM : k < M
              · have hgi : M - (k + 1) < gk := by omega
                have HKM : Hid (k + 1 + (M - (k + 1)) = M) := by show _ = _; omega
                go_wp2_with (first | (go_at_call 9; refine (HPx.out _).mono ?_; rintro e w' ⟨rfl, hw'⟩; have hw'' := hw'.symm; clear hw'; subst hw'') | (go_at_call 24; refine Calls.mono (coolS H2.out) ?_; rintro e w2 ⟨rfl, h2⟩; have RR : Hid (RunS w w2 b n 4606732058837280358 (.slice a l c) (i + 1)) := h2; clear h2))
                go_roundg (M - (k + 1))
                case rel => exact ⟨k + 1, HKM.out, by simp, RR⟩
                case measure => exact hgi
              · have hkM2 : ¬ ((k : Int) < (M : Int)) := by omega
                go_wp2_with (go_at_call 9; refine (HPx.out _).mono ?_; rintro e w' ⟨rfl, hw'⟩; have hw'' := hw'.symm; clear hw'; subst hw'')
                go_roundg (ops.length - (i + 1))
                case rel => exact ⟨i + 1, _, _, _, HKN.out, rfl, by simp, H2⟩
                case measure => exact hgk
          · go_wp2_with (first | (go_at_call 9; refine HPi.out.mono ?_; rintro e w' ⟨rfl, hw'⟩; have hw'' := hw'.symm; clear hw'; subst hw'') | (go_at_call 20; refine Calls.mono (takeR H1.out) ?_; rintro e w2 ⟨⟨z, q, rfl⟩, h2⟩; have RR : Hid (RunS w w2 b n 4606732058837280358 (.slice a l c) (i + 1)) := h2; clear h2))
            go_roundg (ops.length - (i + 1))
            case rel => exact ⟨i + 1, _, _, _, HKN.out, rfl, by simp, RR⟩
            case measure => exact hgk
          · go_wp2_with (first | (go_at_call 9; refine HPi.out.mono ?_; rintro e w' ⟨rfl, hw'⟩; have hw'' := hw'.symm; clear hw'; subst hw'') | (go_at_call 21; refine Calls.mono (hputR _ H1.out) ?_; rintro e w2 ⟨⟨z, rfl⟩, h2⟩; have RR : Hid (RunS w w2 b n 4606732058837280358 (.slice a l c) (i + 1)) := h2; clear h2))
            go_roundg (ops.length - (i + 1))
            case rel => exact ⟨i + 1, _, _, _, HKN.out, rfl, by simp, RR⟩
            case measure => exact hgk
          · have hl63 : l ≤ i → l + 1 ≤ maxLen := fun h => by unfold maxLen; omega
            have hl48 : l ≤ i → (l + 1) * 24 ≤ 140737488355328 := fun h => by omega
            have HLB : Hid ((l ≤ i → l + 1 ≤ maxLen) ∧ (l ≤ i → (l + 1) * 24 ≤ 140737488355328)) := ⟨hl63, hl48⟩
            clear hl63 hl48
            go_wp2_with (first | (go_at_call 9; refine HPi.out.mono ?_; rintro e w' ⟨rfl, hw'⟩; have hw'' := hw'.symm; clear hw'; subst hw'') | (go_at_call 17; refine Calls.mono (orderR H1.out (by omega)) ?_; rintro e w2 ⟨a2, l2, c2', rfl, h2⟩; have HA : Hid (AppR w w2 b n 4606732058837280358 a l c i a2 l2 c2') := h2; clear h2) | (at_builtin; obtain ⟨xs, x1, x2, x3, x4⟩ := HA.out; refine wpList_append_apk rfl _ _ 49 rfl w.heap.size 52 i0 (.slice none 0 0) 1 24 Try.underlying49 HI.out.1 HI.out.2.1 HI.out.2.2.1 HI.out.2.2.2 rfl (by decide) (.slice a l c) l xs rfl x1 ⟨w2.heap.size, 0, none⟩ 1 1 [.slice a2 l2 c2'] rfl rfl (cell_one_new _ _ _) (by simp [Value.oneCell']) (HLB.out.1 x3) (HLB.out.2 x3) x2 ?_; intro v8 w8 own8 ap8; obtain ⟨⟨a8, c8, hv8⟩, q8⟩ := x4 v8 w8 own8 ap8; subst hv8; have RR : Hid (RunS w w8 b n 4606732058837280358 (.slice a8 (l + 1) c8) (i + 1)) := q8; clear own8 ap8 q8 x1 x2 x3 x4))
            go_roundg (ops.length - (i + 1))
            case rel => exact ⟨i + 1, _, _, _, HKN.out, rfl, by simp, RR⟩
            case measure => exact hgk
        · have hie : i = ops.length := by omega
          have HF : Hid (RunS w wr b n 4606732058837280358 (.slice a l c) ops.length) := by rw [← hie]; exact H1.out
          clear H1 HC
          go_wp2
          go_returns
          exact ⟨b, _, _, rfl, HF.out⟩
    · have hdc : dcB d = true := by unfold dcB; rw [h1, h2]; rfl
      rw [h1] at hge
      rw [h2] at hle
      clear h1 h2
      have HN1 : Hid (Calls Try.prog 10 #[.int .i64 (n : Int), .float .f64 d] w fun e w' => NewS w n d e w') := HNew.out d hd hdc
      clear HNew
      go_enter Try.func16, Try.ntmps16
      go_wp2_with (first | (go_at_call 9; refine (HP.out _).mono ?_; rintro e w' ⟨rfl, hw'⟩; have hw'' := hw'.symm; clear hw'; subst hw'') | (go_at_call 10; refine HN1.out.mono ?_; rintro e w1 ⟨b, v, rfl, ht, hb⟩; have HR0 : Hid (RunS w w1 b n d (.slice none 0 0) 0) := ⟨v, _, _, _, [], ht, Bnd.start n, OwnR.nil _ _, Nat.le_refl _, fun x hx => (by cases hx), fun _ => rfl, hb⟩; clear ht hb))
      clear HN1 HP HD95
      try clear hge hle
      go_loopg [3, 12] ops.length (fun q x y wx => ∃ (i : Nat) (a : Option Addr) (l c : Nat), i + q = ops.length ∧ x = .slice a l c ∧ y = .int .i64 (i : Int) ∧ Hid (RunS w wx b n d (.slice a l c) i))
      case atStart => exact ⟨0, none, 0, 0, by omega, rfl, rfl, HR0⟩
      case round =>
        obtain ⟨i, a, l, c, hi, rfl, rfl, H1⟩ := hrel
        clear HR0
        by_cases hlt : i < ops.length
        · obtain ⟨bo, off, rfl, c1, c2⟩ := HC.out wr i hlt H1.out.bel
          have hgk : ops.length - (i + 1) < gk := by omega
          have HKN : Hid (i + 1 + (ops.length - (i + 1)) = ops.length) := by show _ = _; omega
          have HPi : Hid (Calls Try.prog 9 #[.int .i64 ops[i].kind, .int .i64 5] wr fun e w' => e = .returned (.int .i64 (pk14 ops[i].kind 5 : Nat)) ∧ w' = wr) := HPk.out _ _
          have hp5 := pk14_lt ops[i].kind (k := 5) (by omega)
          obtain ⟨p, hp⟩ : ∃ p, pk14 ops[i].kind 5 = p := ⟨_, rfl⟩
          rw [hp] at HPi hp5
          clear hp
          have HC2 : Hid (∀ W, Below w.heap.size w W → W.cell? ⟨bo, off + i * 3 + 2, none⟩ = some (.int .i64 ops[i].n)) := fun W hW => by
            obtain ⟨b', off', e', _, d2⟩ := HC.out W i hlt hW
            injection e' with e'
            injection e' with e1 e2
            subst e1; subst e2
            exact d2
          clear HC HPk
          generalize ops[i].n = x at *
          generalize ops[i].kind = kd at *
          rcases (show p = 0 ∨ p = 1 ∨ p = 2 ∨ p = 3 ∨ p = 4 by omega) with rfl | rfl | rfl | rfl | rfl
          · go_wp2_with (first | (go_at_call 9; refine HPi.out.mono ?_; rintro e w' ⟨rfl, hw'⟩; have hw'' := hw'.symm; clear hw'; subst hw'') | (go_at_call 23; refine Calls.mono (bumpR _ H1.out) ?_; rintro e w2 ⟨⟨z, rfl⟩, h2⟩; have RR : Hid (RunS w w2 b n d (.slice a l c) (i + 1)) := h2; clear h2))
            go_roundg (ops.length - (i + 1))
            case rel => exact ⟨i + 1, _, _, _, HKN.out, rfl, by simp, RR⟩
            case measure => exact hgk
          · have HW1 : Hid (RunS w wr b n d (.slice a l c) (i + 1)) := H1.out.weak
            have HPx : Hid (∀ W, Calls Try.prog 9 #[.int .i64 x, .int .i64 400] W fun e w' => e = .returned (.int .i64 (pk14 x 400 : Nat)) ∧ w' = W) := fun W => HPq.out x W
            have hM := pk14_lt x (k := 400) (by omega)
            generalize pk14 x 400 = M at *
            clear c2 HPq H1
            go_wp2_with (go_at_call 9; refine HPi.out.mono ?_; rintro e w' ⟨rfl, hw'⟩; have hw'' := hw'.symm; clear hw'; subst hw'')
            go_loopg [13] M (fun q y wx => ∃ k : Nat, k + q = M ∧ y = .int .i64 (k : Int) ∧ Hid (RunS w wx b n d (.slice a l c) (i + 1)))
            case atStart => exact ⟨0, by omega, rfl, HW1⟩
            case round =>
              obtain ⟨k, hk, rfl, H2⟩ := hrel
              clear HW1
              have c2 := HC2.out _ H2.out.bel
              by_cases hkM : k < M
              · have hgi : M - (k + 1) < gk := by omega
                have HKM : Hid (k + 1 + (M - (k + 1)) = M) := by show _ = _; omega
                go_wp2_with (first | (go_at_call 9; refine (HPx.out _).mono ?_; rintro e w' ⟨rfl, hw'⟩; have hw'' := hw'.symm; clear hw'; subst hw'') | (go_at_call 24; refine Calls.mono (coolS H2.out) ?_; rintro e w2 ⟨rfl, h2⟩; have RR : Hid (RunS w w2 b n d (.slice a l c) (i + 1)) := h2; clear h2))
                go_roundg (M - (k + 1))
                case rel => exact ⟨k + 1, HKM.out, by simp, RR⟩
                case measure => exact hgi
              · have hkM2 : ¬ ((k : Int) < (M : Int)) := by omega
                go_wp2_with (go_at_call 9; refine (HPx.out _).mono ?_; rintro e w' ⟨rfl, hw'⟩; have hw'' := hw'.symm; clear hw'; subst hw'')
                go_roundg (ops.length - (i + 1))
                case rel => exact ⟨i + 1, _, _, _, HKN.out, rfl, by simp, H2⟩
                case measure => exact hgk
          · go_wp2_with (first | (go_at_call 9; refine HPi.out.mono ?_; rintro e w' ⟨rfl, hw'⟩; have hw'' := hw'.symm; clear hw'; subst hw'') | (go_at_call 20; refine Calls.mono (takeR H1.out) ?_; rintro e w2 ⟨⟨z, q, rfl⟩, h2⟩; have RR : Hid (RunS w w2 b n d (.slice a l c) (i + 1)) := h2; clear h2))
            go_roundg (ops.length - (i + 1))
            case rel => exact ⟨i + 1, _, _, _, HKN.out, rfl, by simp, RR⟩
            case measure => exact hgk
          · go_wp2_with (first | (go_at_call 9; refine HPi.out.mono ?_; rintro e w' ⟨rfl, hw'⟩; have hw'' := hw'.symm; clear hw'; subst hw'') | (go_at_call 21; refine Calls.mono (hputR _ H1.out) ?_; rintro e w2 ⟨⟨z, rfl⟩, h2⟩; have RR : Hid (RunS w w2 b n d (.slice a l c) (i + 1)) := h2; clear h2))
            go_roundg (ops.length - (i + 1))
            case rel => exact ⟨i + 1, _, _, _, HKN.out, rfl, by simp, RR⟩
            case measure => exact hgk
          · have hl63 : l ≤ i → l + 1 ≤ maxLen := fun h => by unfold maxLen; omega
            have hl48 : l ≤ i → (l + 1) * 24 ≤ 140737488355328 := fun h => by omega
            have HLB : Hid ((l ≤ i → l + 1 ≤ maxLen) ∧ (l ≤ i → (l + 1) * 24 ≤ 140737488355328)) := ⟨hl63, hl48⟩
            clear hl63 hl48
            go_wp2_with (first | (go_at_call 9; refine HPi.out.mono ?_; rintro e w' ⟨rfl, hw'⟩; have hw'' := hw'.symm; clear hw'; subst hw'') | (go_at_call 17; refine Calls.mono (orderR H1.out (by omega)) ?_; rintro e w2 ⟨a2, l2, c2', rfl, h2⟩; have HA : Hid (AppR w w2 b n d a l c i a2 l2 c2') := h2; clear h2) | (at_builtin; obtain ⟨xs, x1, x2, x3, x4⟩ := HA.out; refine wpList_append_apk rfl _ _ 49 rfl w.heap.size 52 i0 (.slice none 0 0) 1 24 Try.underlying49 HI.out.1 HI.out.2.1 HI.out.2.2.1 HI.out.2.2.2 rfl (by decide) (.slice a l c) l xs rfl x1 ⟨w2.heap.size, 0, none⟩ 1 1 [.slice a2 l2 c2'] rfl rfl (cell_one_new _ _ _) (by simp [Value.oneCell']) (HLB.out.1 x3) (HLB.out.2 x3) x2 ?_; intro v8 w8 own8 ap8; obtain ⟨⟨a8, c8, hv8⟩, q8⟩ := x4 v8 w8 own8 ap8; subst hv8; have RR : Hid (RunS w w8 b n d (.slice a8 (l + 1) c8) (i + 1)) := q8; clear own8 ap8 q8 x1 x2 x3 x4))
            go_roundg (ops.length - (i + 1))
            case rel => exact ⟨i + 1, _, _, _, HKN.out, rfl, by simp, RR⟩
            case measure => exact hgk
        · have hie : i = ops.length := by omega
          have HF : Hid (RunS w wr b n d (.slice a l c) ops.length) := by rw [← hie]; exact H1.out
          clear H1 HC
          go_wp2
          go_returns
          exact ⟨b, _, _, rfl, HF.out⟩
end Go.Proofs.Ytbfjhgiifmhccaa
