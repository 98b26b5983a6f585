/-
  HeatKeeps, walked.
  KEEP: set on app at below new trans refl start kept mono lt add none own nil put len pos other cell ty blt fz box k p r pr a0 a1 a2 c0 c1 c2 hb setK setP setR unique grown step fin bij up q1 q2 pl held mk v1 v2 t1 t2 hs few cut root z kl nl sl d1 d2 row down has holds stp bel heat mem srt inn inj out lays ap kind rd rds bump cool weak types foreign rows cong form heat nodup walk side push place make
-/
import Derived.Test.YtbfjhgiifmhccaaHtK
set_option linter.unusedSimpArgs false
set_option linter.unusedVariables false
namespace Go.Proofs.Ytbfjhgiifmhccaa
open Go Go.RowKit
theorem cell_two_new (w : World) (x y : Value) (t : TypeId) : ∀ j u, [x, y][j]? = some u → (w.alloc (.cells #[x, y] t)).cell? ((⟨w.heap.size, 0, none⟩ : Addr).add j) = some u := fun j u hu => by
  rw [Addr.add_lit]
  have hh := World.alloc_heap_new w (.cells #[x, y] t)
  show (match (w.alloc (.cells #[x, y] t)).heap[w.heap.size]? with | some (Obj.cells c elem frozen) => c[0 + j]? | x => none) = _
  rw [hh, Nat.zero_add]
  simpa using hu
theorem ord_none {κ : Nat → Nat} {H : Nat → Bool} {n : Nat} (h : IsOrd κ H n []) (hH : H = fun _ => true) : n = 0 := by
  refine Classical.byContradiction fun hn => ?_
  have := (h.mem 1).2 ⟨Nat.le_refl _, by omega, by rw [hH]⟩
  simp at this
theorem KpH.below {w w7 w8 : World} {b n dec st kk : Nat} {K S : List Nat} {H : Nat → Bool} {o ul : Value} (h : KpH w w7 b n dec st K H o kk ul S) (hb : Below w7.heap.size w7 w8) : KpH w w8 b n dec st K H o kk ul S := by
  obtain ⟨v, L, h1, h2, h3, h4, h5, h6, h7⟩ := h
  exact ⟨v, L, h1.below hb, h2.below hb, h3.below hb, h4, h5, h6, Below.step h7 hb⟩
theorem KpH.bel {w w7 : World} {b n dec st kk : Nat} {K S : List Nat} {H : Nat → Bool} {o ul : Value} (h : KpH w w7 b n dec st K H o kk ul S) : Below w.heap.size w w7 ∧ Own w.heap.size w7 ul (i6 S) := by
  obtain ⟨v, L, h1, h2, h3, h4, h5, h6, h7⟩ := h
  exact ⟨h7, h3⟩
namespace heatKeeps
set_option maxRecDepth 100000 in
set_option maxHeartbeats 6000000 in
theorem walk (n0 : Int) (d : Nat) (vo : Value) (ops : List HOp) (w : World) (hd : d < 18446744073709551616) (hr : RdH w vo ops) :
    Calls Try.prog 8 #[.agg #[.int .i64 n0, .float .f64 d, vo]] w fun e w' => e = .returned (.bool true) ∧ Below w.heap.size w w' := by
  have hops : ops.length * 24 ≤ 140737488351232 := by obtain ⟨_, _, _, _, _, h, _⟩ := hr; exact h
  have hb0 := below_box w (.cells #[.int .i64 n0, .float .f64 d, vo] 48)
  have hbx := World.alloc_heap_new w (.cells #[.int .i64 n0, .float .f64 d, vo] 48)
  have hsz : w.heap.size < (w.alloc (.cells #[.int .i64 n0, .float .f64 d, vo] 48)).heap.size := by rw [World.size_alloc]; omega
  have HRun0 := run_any n0 d vo ops (w.alloc (.cells #[.int .i64 n0, .float .f64 d, vo] 48)) hd (hr.below hb0)
  have HX : Hid (∀ W, Below (w.alloc (.cells #[.int .i64 n0, .float .f64 d, vo] 48)).heap.size (w.alloc (.cells #[.int .i64 n0, .float .f64 d, vo] 48)) W → W.cell? ⟨w.heap.size, 0, none⟩ = some (.int .i64 n0) ∧ W.cell? ⟨w.heap.size, 1, none⟩ = some (.float .f64 d) ∧ W.cell? ⟨w.heap.size, 2, none⟩ = some vo) := fun W hW => by
    have e : W.heap[w.heap.size]? = some (.cells #[.int .i64 n0, .float .f64 d, vo] 48 (0, 0)) := (hW.block _ hsz).trans hbx
    exact ⟨by simp [World.cell?, e], by simp [World.cell?, e], by simp [World.cell?, e]⟩
  have HPk : Hid (∀ W, Calls Try.prog 9 #[.int .i64 n0, .int .i64 61] W fun e w' => e = .returned (.int .i64 (pk14 n0 61 : Nat)) ∧ w' = W) := fun W => pick14_any n0 61 W (by omega) (by omega)
  have hn61 := pk14_lt n0 (k := 61) (by omega)
  obtain ⟨n, hn⟩ : ∃ n, pk14 n0 61 = n := ⟨_, rfl⟩
  rw [hn] at HRun0 HPk hn61
  clear hn
  have HRun : Hid (Calls Try.prog 16 #[.int .i64 n0, .float .f64 d, vo, .slice none 0 0] (w.alloc (.cells #[.int .i64 n0, .float .f64 d, vo] 48)) fun e w' => ∃ b u dec, e = .returned (.tuple #[.pointer (some ⟨b, 0, none⟩), u]) ∧ RunS (w.alloc (.cells #[.int .i64 n0, .float .f64 d, vo] 48)) w' b n dec u ops.length) := HRun0
  obtain ⟨x0, x1, x2⟩ := HX.out _ (Below.refl _ _)
  obtain ⟨ao, co, eo, hrr⟩ := hr
  clear hrr
  have HB0 : Hid (Below w.heap.size w (w.alloc (.cells #[.int .i64 n0, .float .f64 d, vo] 48))) := hb0
  clear HRun0 hb0 hbx
  subst eo
  obtain ⟨NO, hNO⟩ : ∃ N : Nat, ops.length = N := ⟨_, rfl⟩
  rw [hNO] at hops HRun HX x0 x1 x2 HB0 hsz ⊢
  clear hNO
  obtain ⟨i0, hi0, hz0, hz1, hz2⟩ := info_parts info_ii
  have HI : Hid (Try.prog.info? 52 = some i0 ∧ i0.zero = some (.slice none 0 0) ∧ i0.size = 1 ∧ i0.bytes = 24) := ⟨hi0, hz0, hz1, hz2⟩
  clear hi0 hz0 hz1 hz2
  go_enter Try.func8, Try.ntmps8
  go_upto_region 1 with fail
  generalize w.alloc (.cells #[.int .i64 n0, .float .f64 d, .slice ao NO co] 48) = w0 at *
  go_upto_region 3 with (go_at_call 16; refine HRun.out.mono ?_; rintro e w1 ⟨b, u0, dec, rfl, hrs⟩; have HRS : Hid (RunS w0 w1 b n dec u0 NO) := hrs; clear hrs)
  obtain ⟨v, st, K, H, L, ht, _, hR, hLk, hx60, hk0, hbel1⟩ := HRS.out
  have HT : Hid (Ht w0.heap.size w1 b v n dec st K H) := ht
  have HR : Hid (OwnR w0.heap.size w1 u0 L) := hR
  have HLk : Hid (L.length ≤ NO ∧ (∀ x ∈ L, x.2.length ≤ 60)) := ⟨hLk, hx60⟩
  have HB1 : Hid (Below w0.heap.size w0 w1) := hbel1
  have HK0 : Hid (NO = 0 → H = fun _ => true) := hk0
  obtain ⟨a, c, hu0⟩ := row_form' hR.row
  obtain ⟨l, hl⟩ : ∃ l, L.length = l := ⟨_, rfl⟩
  rw [hl] at hu0 hLk
  have HLl : Hid (L.length = l) := hl
  subst hu0
  clear ht hR hx60 hk0 hbel1 HRS HRun x0 x1 x2 hl
  have HOr : Hid (∀ W, Below w1.heap.size w1 W → Calls Try.prog 17 #[.pointer (some ⟨b, 0, none⟩)] W fun e w' => ∃ a2 c2 S, e = .returned (.slice a2 S.length c2) ∧ IsOrd (gt K) H n S ∧ Own W.heap.size w' (.slice a2 S.length c2) (i6 S) ∧ Below W.heap.size W w') := fun W hW =>
    (order_any W (HT.out.below hW)).mono fun e w' ⟨S, u, he, ho, hw, hb⟩ => by
      obtain ⟨a2, c2, hu⟩ := own_form hw
      have hll : (i6 S).length = S.length := by simp
      rw [hll] at hu
      subst hu
      exact ⟨a2, c2, S, he, ho, hw, hb⟩
  have HCp : Hid (∀ W (u : Value) S, Rd W u (i6 S) → Calls Try.prog 25 #[u] W fun e w' => ∃ a2 c2, e = .returned (.slice a2 S.length c2) ∧ Own W.heap.size w' (.slice a2 S.length c2) (i6 S) ∧ Below W.heap.size W w') := fun W u S h =>
    (copyInts_any u (i6 S) W h).mono fun e w' ⟨u2, he, hw, hb⟩ => by
      obtain ⟨a2, c2, hu⟩ := own_form hw
      have hll : (i6 S).length = S.length := by simp
      rw [hll] at hu
      subst hu
      exact ⟨a2, c2, he, hw, hb⟩
  go_upto_region 6 with (first | (go_at_call 17; refine Calls.mono (HOr.out _ (Below.refl _ _)) ?_; rintro e w2 ⟨a1, c1, S, rfl, ho, hw, hb⟩; have HO : Hid (IsOrd (gt K) H n S) := ho; have HW1 : Hid (Rd w2 (.slice a1 S.length c1) (i6 S)) := hw.rd (by have := ord_few ho; simp; omega); have B2 : Hid (Below w1.heap.size w1 w2) := hb; have hSn := ord_few ho; clear ho hw hb) | (go_at_call 25; refine Calls.mono (HCp.out _ _ _ HW1.out) ?_; rintro e w3 ⟨al, cl, rfl, hw, hb⟩; have OL : Hid (Own w2.heap.size w3 (.slice al S.length cl) (i6 S)) := hw; have B3 : Hid (Below w2.heap.size w2 w3) := hb; clear hw hb))
  clear HW1 HCp
  have HOr2 : Hid (∀ W, Below w1.heap.size w1 W → Calls Try.prog 17 #[.pointer (some ⟨b, 0, none⟩)] W fun e w' => ∃ a2 c2, e = .returned (.slice a2 S.length c2) ∧ Own W.heap.size w' (.slice a2 S.length c2) (i6 S) ∧ Below W.heap.size W w') := fun W hW =>
    (HOr.out W hW).mono fun e w' ⟨a2, c2, S', he, ho, hw, hb⟩ => by
      have e := ho.unique HO.out
      subst e
      exact ⟨a2, c2, he, hw, hb⟩
  clear HOr
  obtain ⟨LS, hLS⟩ : ∃ LS, S.length = LS := ⟨_, rfl⟩
  have HLS : Hid (S.length = LS) := hLS
  rw [hLS] at HOr2 OL hSn
  rw [hLS]
  clear hLS
  go_upto_region 7 with (go_at_call 17; refine Calls.mono (HOr2.out _ (Below.step B2.out B3.out)) ?_; rintro e w4 ⟨a2, c2, rfl, hw, hb⟩; have O2 : Hid (Own w3.heap.size w4 (.slice a2 LS c2) (i6 S)) := hw; have B4 : Hid (Below w3.heap.size w3 w4) := hb; clear hw hb)
  have HApp : Hid (∀ w5 a3 c3, Own w4.heap.size w5 (.slice a3 LS c3) (i6 S) → Below w4.heap.size w4 w5 → (w5.alloc (.cells #[.slice a2 LS c2, .slice a3 LS c3] 52)).ownsRow w0.heap.size 52 1 (.slice a l c) l (L.map Prod.fst) ∧ w0.heap.size ≤ (w5.alloc (.cells #[.slice a2 LS c2, .slice a3 LS c3] 52)).heap.size ∧ ∀ v8 w8, w8.ownsRow w0.heap.size 52 1 v8 (l + 2) (L.map Prod.fst ++ [.slice a2 LS c2, .slice a3 LS c3]) → Ap (w5.alloc (.cells #[.slice a2 LS c2, .slice a3 LS c3] 52)) (.slice a l c) w8 v8 → (∃ a8 c8, v8 = .slice a8 (l + 2) c8) ∧ KpH w0 w8 b n dec st K H v8 (l + 2) (.slice al LS cl) S ∧ Own w0.heap.size w8 (.slice a2 LS c2) (i6 S)) := fun w5 a3 c3 o3 b45 => by
    have hS60 : S.length ≤ 60 := by rw [HLS.out]; omega
    have b15 : Below w1.heap.size w1 w5 := Below.step (Below.step (Below.step B2.out B3.out) B4.out) b45
    have hrow := World.ownsRow.alloc (HR.out.below b15).row (.cells #[.slice a2 LS c2, .slice a3 LS c3] 52)
    rw [HLl.out] at hrow
    have hs15 := b15.size
    have hs1 := HB1.out.size
    have hs13 := (Below.step B2.out B3.out).size
    refine ⟨hrow, by rw [World.size_alloc]; omega, fun v8 w8 own8 ap8 => ⟨row_form' own8, KpH.make HT.out HR.out HLk.out.2 HB1.out B2.out OL.out B3.out O2.out B4.out o3 b45 hS60 hS60 own8 ap8, ?_⟩⟩
    exact row_apart (by decide) (World.ownsRow.alloc ((O2.out.mono (by omega)).below b45) (.cells #[.slice a2 LS c2, .slice a3 LS c3] 52)) hrow ap8.grown
  have hl63 : l + 2 ≤ maxLen := by unfold maxLen; omega
  have hl48 : (l + 2) * 24 ≤ 140737488355328 := by omega
  have HBw : Hid (Below w1.heap.size w1 w4) := Below.step (Below.step B2.out B3.out) B4.out
  go_upto_region 8 with (first | (go_at_call 17; refine Calls.mono (HOr2.out _ HBw.out) ?_; rintro e w5 ⟨a3, c3, rfl, hw, hb⟩; obtain ⟨r1, r2, r3⟩ := HApp.out w5 a3 c3 hw hb; have HR1 : Hid ((w5.alloc (.cells #[.slice a2 LS c2, .slice a3 LS c3] 52)).ownsRow w0.heap.size 52 1 (.slice a l c) l (L.map Prod.fst)) := r1; have HR2 : Hid (w0.heap.size ≤ (w5.alloc (.cells #[.slice a2 LS c2, .slice a3 LS c3] 52)).heap.size) := r2; have HR3 : Hid (∀ v8 w8, w8.ownsRow w0.heap.size 52 1 v8 (l + 2) (L.map Prod.fst ++ [.slice a2 LS c2, .slice a3 LS c3]) → Ap (w5.alloc (.cells #[.slice a2 LS c2, .slice a3 LS c3] 52)) (.slice a l c) w8 v8 → (∃ a8 c8, v8 = .slice a8 (l + 2) c8) ∧ KpH w0 w8 b n dec st K H v8 (l + 2) (.slice al LS cl) S ∧ Own w0.heap.size w8 (.slice a2 LS c2) (i6 S)) := r3; clear hw hb r1 r2 r3) | (at_builtin; refine wpList_append_apk rfl _ _ 49 rfl w0.heap.size 52 i0 (.slice none 0 0) 1 24 Try.underlying49 HI.out.1 HI.out.2.1 HI.out.2.2.1 HI.out.2.2.2 rfl (by decide) (.slice a l c) l (L.map Prod.fst) rfl HR1.out ⟨w5.heap.size, 0, none⟩ 2 2 [.slice a2 LS c2, .slice a3 LS c3] rfl rfl (cell_two_new _ _ _ _) (by simp [Value.oneCell']) hl63 hl48 HR2.out ?_; intro v8 w8 own8 ap8; obtain ⟨⟨a8, c8, hv8⟩, q1, q2⟩ := HR3.out v8 w8 own8 ap8; subst hv8; have HKp : Hid (KpH w0 w8 b n dec st K H (.slice a8 (l + 2) c8) (l + 2) (.slice al LS cl) S) := q1; have HAg : Hid (Own w0.heap.size w8 (.slice a2 LS c2) (i6 S)) := q2; clear own8 ap8 q1 q2))
  clear HApp HR1 HR2 HR3 HOr2 HBw OL O2 B2 B3 B4 HT HR HI hl63 hl48
  have HSm : Hid (∀ W u, Own w0.heap.size W (.slice al LS cl) (i6 S) → Rd W u (i6 S) → Calls Try.prog 22 #[u, .slice al LS cl] W fun e w' => e = .returned (.bool true) ∧ Below W.heap.size W w') := fun W u h1 h2 => by
    have := sameInts_any _ _ _ _ W h2 (h1.rd (by rw [List.length_map, HLS.out]; omega))
    rwa [beq_self_eq_true] at this
  have HAr : Hid (Rd w8 (.slice a2 LS c2) (i6 S)) := HAg.out.rd (by rw [List.length_map, HLS.out]; omega)
  have HK9 : Hid (∀ W, Below w8.heap.size w8 W → KpH w0 W b n dec st K H (.slice a8 (l + 2) c8) (l + 2) (.slice al LS cl) S ∧ W.cell? ⟨w.heap.size, 0, none⟩ = some (.int .i64 n0) ∧ W.cell? ⟨w.heap.size, 2, none⟩ = some (.slice ao NO co)) := fun W hW => by
    have hk := HKp.out.below hW
    obtain ⟨x0, x1, x2⟩ := HX.out W hk.bel.1
    exact ⟨hk, x0, x2⟩
  have HS1 : Hid (Calls Try.prog 22 #[.slice a2 LS c2, .slice al LS cl] w8 fun e w' => e = .returned (.bool true) ∧ Below w8.heap.size w8 w') := HSm.out w8 _ HKp.out.bel.2 HAr.out
  go_cut [51] from 31 to 51 (fun q wx => q = .bool false ∧ KpH w0 wx b n dec st K H (.slice a8 (l + 2) c8) (l + 2) (.slice al LS cl) S)
  case first =>
    by_cases hL0 : LS = 0
    · by_cases hN0 : NO = 0
      · have hS0 : S = [] := List.eq_nil_of_length_eq_zero (by rw [HLS.out]; exact hL0)
        have hnn : n = 0 := by
          have h := HO.out
          rw [hS0] at h
          exact ord_none h (HK0.out hN0)
        subst hL0 hN0 hnn
        clear hS0
        go_wp2_with (first | (go_at_call 22; refine HS1.out.mono ?_; rintro e w9 ⟨rfl, h9⟩; obtain ⟨k9, y0, y2⟩ := HK9.out w9 h9; have HK : Hid _ := k9; clear k9) | (go_at_call 9; refine (HPk.out _).mono ?_; rintro e w' ⟨rfl, hw'⟩; have hw'' := hw'.symm; clear hw'; subst hw''))
        go_meet
        exact ⟨rfl, HK.out⟩
      · have hNb : ((NO : Int) == 0) = false := by simpa using hN0
        subst hL0
        go_wp2_with (first | (go_at_call 22; refine HS1.out.mono ?_; rintro e w9 ⟨rfl, h9⟩; obtain ⟨k9, y0, y2⟩ := HK9.out w9 h9; have HK : Hid _ := k9; clear k9) | (go_at_call 9; refine (HPk.out _).mono ?_; rintro e w' ⟨rfl, hw'⟩; have hw'' := hw'.symm; clear hw'; subst hw''))
        go_meet
        exact ⟨rfl, HK.out⟩
    · have hLb : ((LS : Int) == 0) = false := by simpa using hL0
      go_wp2_with (first | (go_at_call 22; refine HS1.out.mono ?_; rintro e w9 ⟨rfl, h9⟩; obtain ⟨k9, y0, y2⟩ := HK9.out w9 h9; have HK : Hid _ := k9; clear k9) | (go_at_call 9; refine (HPk.out _).mono ?_; rintro e w' ⟨rfl, hw'⟩; have hw'' := hw'.symm; clear hw'; subst hw''))
      go_meet
      exact ⟨rfl, HK.out⟩
  case rest =>
  obtain ⟨rfl, hkc⟩ := hcut
  have HAp : Hid (Calls Try.prog 26 #[.slice a8 (l + 2) c8] wc fun e w' => e = .returned (.bool true) ∧ ∃ v, Ht w0.heap.size w' b v n dec st K H ∧ Own w0.heap.size w' (.slice al LS cl) (i6 S) ∧ Below w0.heap.size w0 w') := apartK hkc (by omega)
  clear hkc HKp HAg HAr HK9 HS1 HK0 HPk HX
  have HOf : Hid (∀ W v, Ht w0.heap.size W b v n dec st K H → Own w0.heap.size W (.slice al LS cl) (i6 S) → Below w0.heap.size w0 W → Calls Try.prog 17 #[.pointer (some ⟨b, 0, none⟩)] W fun e w' => ∃ u, e = .returned u ∧ Rd w' u (i6 S) ∧ Own w0.heap.size w' (.slice al LS cl) (i6 S) ∧ Below w.heap.size w w') := fun W v h1 h2 h3 =>
    (order_any W h1).mono fun e w' ⟨S', u, he, ho, hw, hb⟩ => by
      have eS := ho.unique HO.out
      subst eS
      exact ⟨u, he, hw.rd (by rw [List.length_map, HLS.out]; omega), h2.below hb, Below.step HB0.out (Below.step h3 hb)⟩
  go_wp2_with (first | (go_at_call 26; refine HAp.out.mono ?_; rintro e w6 ⟨rfl, v6, t6, o6, b6⟩; have HT6 : Hid (Ht w0.heap.size w6 b v6 n dec st K H) := t6; have HO6 : Hid (Own w0.heap.size w6 (.slice al LS cl) (i6 S)) := o6; have HB6 : Hid (Below w0.heap.size w0 w6) := b6; clear t6 o6 b6) | (go_at_call 17; refine Calls.mono (HOf.out _ _ HT6.out HO6.out HB6.out) ?_; rintro e w7 ⟨u7, rfl, r7, o7, b7⟩; have HR7 : Hid (Rd w7 u7 (i6 S)) := r7; have HO7 : Hid (Own w0.heap.size w7 (.slice al LS cl) (i6 S)) := o7; have HB7 : Hid (Below w.heap.size w w7) := b7; clear r7 o7 b7) | (go_at_call 22; refine Calls.mono (HSm.out _ _ HO7.out HR7.out) ?_; rintro e w9 ⟨rfl, h9⟩))
  go_ret
  exact ⟨rfl, Below.step HB7.out h9⟩
end heatKeeps
end Go.Proofs.Ytbfjhgiifmhccaa
