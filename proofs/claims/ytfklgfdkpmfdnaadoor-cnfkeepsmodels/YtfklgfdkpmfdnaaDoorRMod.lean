/-
  depotref02.Counted, Models, walked.
-/
import Derived.Test.YtfklgfdkpmfdnaaDoorCntW
import Derived.Deep.LoopGhost
set_option linter.unusedSimpArgs false
set_option linter.unusedVariables false
namespace Go.Proofs.YtfklgfdkpmfdnaaDoor
open Go Go.RowKit

theorem infoB : (Tryd.prog.info? 4).map (fun i => (i.zero, i.size, i.bytes)) = some (some (.bool false), 1, 1) := by kernel_rfl
theorem infoBs : (Tryd.prog.info? 32).map (fun i => (i.zero, i.size, i.bytes)) = some (some (.slice none 0 0), 1, 24) := by kernel_rfl
/-- a list of truths of the call's own -/
def OwnB (base : Nat) (w : World) (v : Value) (ms : List Bool) : Prop := w.ownsRow base 4 1 v ms.length (ms.map Value.bool)
theorem OwnB.one {base : Nat} {w : World} {v : Value} {ms : List Bool} {b : Bool} (h : w.ownsRow base 4 1 v (ms.length + 1) (ms.map Value.bool ++ [.bool b])) : OwnB base w v (ms ++ [b]) := by
  unfold OwnB; simpa using h
theorem OwnB.rd {base : Nat} {w : World} {v : Value} {ms : List Bool} (h : OwnB base w v ms) (hl : ms.length ≤ 140737488351232) : RdB w v ms := by
  rcases h.2 with ⟨rfl, h0⟩ | ⟨g, cap, cur, rfl, hb, hg, hn, hc, hs, ht⟩
  · have : ms = [] := List.length_eq_zero_iff.1 h0
    subst this; exact RdB.nil w
  · refine ⟨hl, some ⟨g, 0, none⟩, cap, rfl, fun hne => ⟨g, 0, rfl, (Array.getElem?_eq_some_iff.1 hg).1, fun k hk => ?_⟩⟩
    have h' : w.ownsRow base 4 1 (.slice (some ⟨g, 0, none⟩) ms.length cap) ms.length (ms.map Value.bool) := h
    rw [Nat.zero_add, World.ownsRow.cellAt h' k (by omega)]
    simp [List.getD_eq_getElem?_getD, hk]
theorem bt_getD : ∀ (n j k : Nat), k < n → (bt n j).getD k false = ((j / 2 ^ k) % 2 == 1)
  | 0, j, k, h => by omega
  | n + 1, j, 0, h => by simp [bt]
  | n + 1, j, k + 1, h => by
    have := bt_getD n (j / 2) k (by omega)
    simp only [bt, List.getD_cons_succ, this]
    rw [Nat.div_div_eq_div_mul, Nat.pow_succ, Nat.mul_comm]

set_option maxHeartbeats 1600000 in
set_option maxRecDepth 100000 in
theorem rCounted_any (j n : Nat) (hj : j < 4611686018427387904) (hn : n ≤ 16) (w : World) :
    Calls Tryd.prog 29 #[.int .i64 j, .int .i64 n] w fun e w' => ∃ u, e = .returned u ∧ OwnB w.heap.size w' u (bt n j) ∧ Below w.heap.size w w' := by
  obtain ⟨i0, hi, hz0, hz1, hz2⟩ := info_parts infoB
  go_enter Tryd.func29, Tryd.ntmps29
  go_wp2
  go_loopg [0, 5, 6] n (fun g m u i wr => ∃ k : Nat, k + g = n ∧ i = .int .i64 k ∧ m = .int .i64 ((j / 2 ^ k : Nat) : Int) ∧ OwnB w.heap.size wr u ((bt n j).take k) ∧ Below w.heap.size w wr)
  case atStart => exact ⟨0, by omega, rfl, by simp, World.ownsRow_nil _ _ _ _, Below.refl _ _⟩
  case round =>
    obtain ⟨k, hk, rfl, rfl, own, bel⟩ := hrel
    have HK : Hid (k + gk = n) := hk
    have hs := bel.size
    by_cases hlt : k < n
    · have hq : j / 2 ^ k ≤ j := Nat.div_le_self _ _
      have HS : Hid ((bt n j).take (k + 1) = (bt n j).take k ++ [((j / 2 ^ k) % 2 == 1)]) := by
        show _ = _
        rw [take_succ_getD (bt n j) false k (by rw [bt_len]; exact hlt), bt_getD n j k hlt]
      have HD : Hid (j / 2 ^ (k + 1) = (j / 2 ^ k) / 2) := by show _ = _; rw [Nat.pow_succ, Nat.div_div_eq_div_mul]
      have hlk : ((bt n j).take k).length ≤ 16 := by simp [bt_len]; omega
      clear hk
      generalize (bt n j).take k = out at *
      generalize j / 2 ^ k = q at *
      have HQ : Hid (((q : Int) % 2 == 1) = (q % 2 == 1)) := by
        show _ = _
        rcases (show q % 2 = 0 ∨ q % 2 = 1 by omega) with h | h
        · have h' : (q : Int) % 2 = 0 := by omega
          rw [h, h']; rfl
        · have h' : (q : Int) % 2 = 1 := by omega
          rw [h, h']; rfl
      go_wp2_with (at_builtin; refine wpList_append_own _ rfl _ _ 32 rfl w.heap.size 4 i0 (.bool false) 1 1 Tryd.underlying32 hi hz0 hz1 hz2 rfl (by decide) _ out.length (out.map Value.bool) rfl (World.ownsRow.alloc own _) _ 1 1 [.bool ((q : Int) % 2 == 1)] rfl rfl (cell_one_new _ _ _) (by simp [Value.oneCell']) (by unfold maxLen; omega) (by omega) (by simp; omega) ?_; intro v2 w2 own2 gr2 hn2)
      go_roundg (gk - 1)
      case measure => have := HK.out; omega
      case rel => exact ⟨k + 1, by have := HK.out; omega, by go_num, by rw [HD.out]; simp, by rw [HS.out, ← HQ.out]; exact OwnB.one own2, (bel.alloc hs _).grown gr2 (by simp; omega) (fun q hq => (own.lt q hq).1)⟩
    · obtain rfl : k = n := by omega
      rw [List.take_of_length_le (by rw [bt_len]; exact Nat.le_refl _)] at own
      clear hk
      go_wp2
      go_ret
      exact ⟨_, rfl, own, bel⟩

/-- the reference's models -/
structure OwnM (base : Nat) (w : World) (v : Value) (L : List Itb) : Prop where
  row : w.ownsRow base 32 1 v L.length (L.map Prod.fst)
  each : ∀ x ∈ L, OwnB base w x.1 x.2
theorem OwnM.below {base : Nat} {w w' : World} {v : Value} {L : List Itb} (h : OwnM base w v L) (hb : Below w.heap.size w w') : OwnM base w' v L :=
  ⟨World.ownsRow.kept h.row (grown_below hb) (one_or _), fun x hx => World.ownsRow.kept (h.each x hx) (grown_below hb) (one_or _)⟩
theorem wrap_pow (n : Nat) (h : n ≤ 16) : wrap64 ((2 : Int) ^ n) = ((2 ^ n : Nat) : Int) := by
  have h2 : 2 ^ n ≤ 65536 := by have : 2 ^ n ≤ 2 ^ 16 := Nat.pow_le_pow_right (by omega) h; omega
  rw [show ((2 : Int) ^ n) = ((2 ^ n : Nat) : Int) by simp]
  generalize 2 ^ n = P at *
  unfold wrap64; omega
theorem OwnM.app {base : Nat} {w w1 w2 : World} {v v' : Value} {L : List Itb} {u : Value} {m : List Bool} (h : OwnM base w v L) (hg : w.grownBy w1 none) (hu : OwnB base w u m) (own' : w2.ownsRow base 32 1 v' (L.length + 1) (L.map Prod.fst ++ [u])) (hg2 : w1.grownBy w2 v.ownBlock) : OwnM base w2 v' (L ++ [(u, m)]) := by
  have r1 := World.ownsRow.kept h.row hg (one_or _)
  have keep : ∀ {x : Value} {z : List Bool}, OwnB base w x z → OwnB base w2 x z := fun {x z} hx => row_apart (by decide) (World.ownsRow.kept hx hg (one_or _)) r1 hg2
  refine ⟨by simpa using own', fun x hx => ?_⟩
  rcases List.mem_append.1 hx with hx | hx
  · exact keep (h.each x hx)
  · obtain rfl : x = (u, m) := by simpa using hx
    exact keep hu

set_option maxHeartbeats 1600000 in
set_option maxRecDepth 100000 in
theorem rModels_any (n : Int) (s : Value) (css : List (List Int)) (w : World) (hr : Rds w s css) :
    Calls Tryd.prog 5 #[.agg #[.int .i64 n, s]] w fun e w' => ∃ u L, e = .returned u ∧ OwnM w.heap.size w' u L ∧ L.map Prod.snd = modF n css ∧ Below w.heap.size w w' := by
  have HX : Hid (Bx w n s css (w.alloc (.cells #[.int .i64 n, s] 24))) := Bx.new hr _
  obtain ⟨a, c, rfl, hc, hm, _⟩ := hr.form
  obtain ⟨i0, hi, hz0, hz1, hz2⟩ := info_parts infoBs
  clear hr
  cases hf : frm n css
  · have HR : Hid (modF n css = []) := by unfold modF Hid; rw [hf]; rfl
    go_enter Tryd.func5, Tryd.ntmps5
    go_wp2_with fail
    refine (rFormed_any n _ css _ HX.out.rd).mono ?_
    rw [hf]
    rintro e w1 ⟨rfl, bel1⟩
    have HX1 : Hid (Bx w n (.slice a css.length c) css w1) := HX.out.on bel1
    go_wp2
    go_ret
    exact ⟨_, [], rfl, ⟨World.ownsRow_nil _ _ _ _, fun x hx => (by cases hx)⟩, by rw [HR.out]; rfl, HX1.out.bel⟩
  have HF : Hid (frm n css = true) := hf
  cases h16 : decide (16 < n)
  case true =>
    have HR : Hid (modF n css = []) := by
      have h : 16 < n := of_decide_eq_true h16
      unfold modF Hid; rw [decide_eq_false (by omega : ¬ n ≤ 16)]; simp
    go_enter Tryd.func5, Tryd.ntmps5
    go_wp2_with fail
    refine (rFormed_any n _ css _ HX.out.rd).mono ?_
    rw [hf]
    rintro e w1 ⟨rfl, bel1⟩
    have HX1 : Hid (Bx w n (.slice a css.length c) css w1) := HX.out.on bel1
    have c0 := HX1.out.c0
    go_wp2
    go_ret
    exact ⟨_, [], rfl, ⟨World.ownsRow_nil _ _ _ _, fun x hx => (by cases hx)⟩, by rw [HR.out]; rfl, HX1.out.bel⟩
  have hn0 : 0 ≤ n := by have := hf; simp only [frm, Bool.and_eq_true, decide_eq_true_eq] at this; exact this.1.1
  have hn16 : ¬ 16 < n := of_decide_eq_false h16
  obtain ⟨nn, rfl⟩ : ∃ nn : Nat, n = nn := ⟨n.toNat, by omega⟩
  have hnn : nn ≤ 16 := by omega
  have HR : Hid (modF nn css = mods nn css) := by
    unfold modF Hid; rw [hf, decide_eq_true (by omega : (nn : Int) ≤ 16)]; rfl
  have hpw : 2 ^ nn ≤ 65536 := by have : 2 ^ nn ≤ 2 ^ 16 := Nat.pow_le_pow_right (by omega) hnn; omega
  obtain ⟨P, hP⟩ : ∃ P, P = 2 ^ nn := ⟨_, rfl⟩
  have hwp : wrap64 ((2 : Int) ^ nn) = (P : Int) := by rw [hP]; exact wrap_pow nn hnn
  have HPw : Hid (P = 2 ^ nn) := hP
  have hPle : P ≤ 65536 := by rw [hP]; exact hpw
  clear hP hpw
  go_enter Tryd.func5, Tryd.ntmps5
  go_wp2_with fail
  refine (rFormed_any nn _ css _ HX.out.rd).mono ?_
  rw [hf]
  rintro e w1 ⟨rfl, bel1⟩
  have HX1 : Hid (Bx w nn (.slice a css.length c) css w1) := HX.out.on bel1
  have c0 := HX1.out.c0
  have hs1 : w.heap.size < w1.heap.size := World.block_lt_of_cell? w1 _ c0
  clear HX hf bel1 hn16 hn0
  go_wp2
  go_loopg [3, 4] P (fun g u i wr => ∃ (k : Nat) (L : List Itb), k + g = P ∧ i = .int .i64 k ∧ L.length ≤ k ∧ L.map Prod.snd = modsTo nn css k ∧ Hid (OwnM w1.heap.size wr u L) ∧ Hid (Below w1.heap.size w1 wr))
  case atStart => exact ⟨0, [], by omega, rfl, by simp, by simp [modsTo], ⟨World.ownsRow_nil _ _ _ _, fun x hx => (by cases hx)⟩, Below.refl _ _⟩
  case round =>
    obtain ⟨k, L, hk, rfl, hLk, hLs, HO, HBl⟩ := hrel
    have HK : Hid (k + gk = P) := hk
    have HLs : Hid (L.map Prod.snd = modsTo nn css k) := hLs
    have d0 := (HX1.out.on HBl.out).c0
    have d1 := (HX1.out.on HBl.out).c1
    have hs := HBl.out.size
    clear hLs
    by_cases hlt : k < P
    · have HM : Hid (modsTo nn css (k + 1) = modsTo nn css k ++ (if satT (bt nn k) css then [bt nn k] else [])) := modsTo_succ nn css k
      have hbl := bt_len nn k
      have HC : Hid (Calls Tryd.prog 29 #[.int .i64 k, .int .i64 nn] wr fun e w' => ∃ u, e = .returned u ∧ OwnB wr.heap.size w' u (bt nn k) ∧ Below wr.heap.size wr w') := rCounted_any k nn (by omega) hnn wr
      have HD : Hid (mdl nn css (bt nn k) = true) := by unfold Hid mdl; rw [HF.out, hbl]; simp
      clear hk hbl
      go_wp2_with fail
      refine HC.out.mono ?_
      rintro e w2 ⟨um, rfl, own2, bel2⟩
      have HO2 : Hid (OwnB wr.heap.size w2 um (bt nn k)) := own2
      have B2 : Hid (Below w1.heap.size w1 w2) := Below.step HBl.out bel2 |> fun _ => HBl.out.trans (bel2.mono hs)
      have e0 := (HX1.out.on B2.out).c0
      have e1 := (HX1.out.on B2.out).c1
      have hrm : RdB w2 um (bt nn k) := own2.rd (by rw [bt_len]; omega)
      obtain ⟨am, cm, rfl, -⟩ := hrm.form
      have HS : Hid (Calls Tryd.prog 30 #[.agg #[.int .i64 nn, .slice a css.length c], .slice am (bt nn k).length cm] w2 fun e w' => e = .returned (.bool (satT (bt nn k) css)) ∧ Below w2.heap.size w2 w') := (rSatisfied_any nn _ _ css (bt nn k) w2 (HX1.out.on B2.out).rd hrm HD.out)
      have hs2 := B2.out.size
      have hsr := bel2.size
      have HO3 : Hid (OwnM w1.heap.size w2 _ L) := HO.out.below bel2
      clear own2 hrm d0 d1 HC HO
      cases hq : satT (bt nn k) css
      · rw [hq] at HS HM
        go_wp2_with fail
        refine HS.out.mono ?_
        rintro e w3 ⟨rfl, bel3⟩
        go_wp2
        go_roundg (gk - 1)
        case measure => have := HK.out; omega
        case rel => exact ⟨k + 1, L, by have := HK.out; omega, by go_num, by omega, by rw [HM.out]; simpa using HLs.out, HO3.out.below bel3, B2.out.trans (bel3.mono hs2)⟩
      · rw [hq] at HS HM
        go_wp2_with fail
        refine HS.out.mono ?_
        rintro e w3 ⟨rfl, bel3⟩
        have hs3 := bel3.size
        have HO4 : Hid (OwnM w1.heap.size w3 _ L) := HO3.out.below bel3
        have HU4 : Hid (OwnB w1.heap.size w3 (.slice am (bt nn k).length cm) (bt nn k)) := row_mono (World.ownsRow.kept HO2.out (grown_below bel3) (one_or _)) hs
        go_wp2_with (at_builtin; refine wpList_append_own _ rfl _ _ 25 rfl w1.heap.size 32 i0 (.slice none 0 0) 1 24 Tryd.underlying25 hi hz0 hz1 hz2 rfl (by decide) _ L.length (L.map Prod.fst) rfl (World.ownsRow.alloc HO4.out.row _) _ 1 1 [.slice am (bt nn k).length cm] rfl rfl (cell_one_new _ _ _) (by simp [Value.oneCell']) (by unfold maxLen; omega) (by omega) (by simp; omega) ?_; intro v5 w5 own5 gr5 hn5)
        go_roundg (gk - 1)
        case measure => have := HK.out; omega
        case rel => exact ⟨k + 1, L ++ [(.slice am (bt nn k).length cm, bt nn k)], by have := HK.out; omega, by go_num, by simp; omega, by rw [HM.out, List.map_append, HLs.out]; rfl, HO4.out.app (World.grownBy_alloc _ _ _) HU4.out own5 gr5, ((B2.out.trans (bel3.mono hs2)).alloc (by omega) _).grown gr5 (by simp; omega) (fun q hq => (HO4.out.row.lt q hq).1)⟩
    · obtain rfl : k = P := by omega
      clear hk
      have HE : Hid (L.map Prod.snd = modF nn css) := by show _ = _; rw [HR.out]; unfold mods; rw [← HPw.out]; exact HLs.out
      go_wp2
      go_ret
      exact ⟨_, L, rfl, ⟨row_mono HO.out.row (by omega), fun x hx => row_mono (HO.out.each x hx) (by omega)⟩, HE.out, HX1.out.bel.trans (HBl.out.mono (by omega))⟩

end Go.Proofs.YtfklgfdkpmfdnaaDoor
