/-
  unit: what waits: take.
  KEEP: set on app at below new trans refl start ap kept rd rds mono lt add none own nil
-/
import Derived.Test.YtijhabhbeambeaaDoorUnW
import Derived.Test.YtijhabhbeambeaaDoorUnZ
set_option linter.unusedSimpArgs false
set_option linter.unusedVariables false
namespace Go.Proofs.YtijhabhbeambeaaDoor
open Go Go.RowKit

/-- the table of math/bits -/
def Deb (W : World) : Prop := TabAt 0 Lib.deBruijn64tab W ∧ 0 < W.heap.size
theorem Deb.below {W W' : World} (h : Deb W) (hb : Below W.heap.size W W') : Deb W' := ⟨fun j hj => (hb.cell (p := ⟨_, j, none⟩) h.2).trans (h.1 j hj), Nat.lt_of_lt_of_le h.2 hb.size⟩
theorem Deb.mo {w W W' : World} {P P' : Nat → Prop} (h : Deb w) (hb : Below w.heap.size w W) (hp : ∀ k, P k → w.heap.size ≤ k) (hm : Mo W P W' P') : Deb W' := h.below (Mo.bel hb hp hm)

/-- one level, the least number's word -/
theorem Wt.leastAt {B : Nat} {W : World} {v : Value} {Ls : List Lev} {N : Nat} {Q : Nat → Bool} {j n : Nat} (h : Wt B W v Ls) (hl : Lvs N Q (Ls.map Prod.snd)) (hj : j < Ls.length) (hn : Q n = true) (hle : ∀ k, Q k = true → n ≤ k) :
    ∃ g0 c0 g c len x, v = .slice (some ⟨g0, 0, none⟩) Ls.length c0 ∧ W.cell? ⟨g0, j, none⟩ = some (.slice (some ⟨g, 0, none⟩) len c) ∧ n / 64 ^ (j + 1) < len ∧ len ≤ c ∧ c ≤ maxLen ∧ c0 ≤ maxLen ∧ W.cell? ⟨g, n / 64 ^ (j + 1), none⟩ = some (.int .u64 ((x : Nat) : Int)) ∧ x < 18446744073709551616 ∧ x ≠ 0 ∧ Lib.ctz 64 x < 64 ∧ 64 * (n / 64 ^ (j + 1)) + Lib.ctz 64 x = n / 64 ^ j := by
  have hsn : (Ls.map Prod.snd)[j]? = some (Ls[j]).2 := by rw [List.getElem?_map, List.getElem?_eq_getElem hj]; rfl
  have hlw : Lw N Q j (Ls[j]).2 := hl.lv j _ hsn
  obtain ⟨g0, c0, g, c, e9, a1, a2, a3, a4, a5, a6, a7, a8, a9⟩ := h.met hj hlw.pos
  have hroom : n / 64 ^ (j + 1) < (Ls[j]).2.length := hlw.room n (hl.sub n hn)
  have hx := List.getElem?_eq_getElem hroom
  obtain ⟨l1, l2, l3⟩ := hlw.least hn hle hx
  exact ⟨g0, c0, g, c, (Ls[j]).2.length, _, e9, a3, hroom, a5, a6, a2, a7 _ _ hx, hlw.lt _ _ hx, l1, l2, l3⟩
/-- one level, cleared -/
theorem Wt.delAt {B : Nat} {W : World} {v : Value} {L2 : List Lev} {N : Nat} {Q : Nat → Bool} {j n : Nat} (h : Wt B W v L2) (hm : Mix N Q (qdel Q n) j (L2.map Prod.snd)) (hj : j < L2.length) (hn : n < N) (ho : ∀ k, Q k = true → k ≠ n → k / 64 ^ j ≠ n / 64 ^ j) :
    ∃ g0 c0 g c len x, v = .slice (some ⟨g0, 0, none⟩) L2.length c0 ∧ W.cell? ⟨g0, j, none⟩ = some (.slice (some ⟨g, 0, none⟩) len c) ∧ n / 64 ^ j / 64 < len ∧ len ≤ c ∧ c ≤ maxLen ∧ c0 ≤ maxLen ∧ W.cell? ⟨g, n / 64 ^ j / 64, none⟩ = some (.int .u64 ((x : Nat) : Int)) ∧ W.frozen? ⟨g, n / 64 ^ j / 64, none⟩ = false ∧ x < 18446744073709551616 ∧
      (x &&& (18446744073709551615 - 2 ^ (n / 64 ^ j % 64)) ≠ 0 → ∃ k, Q k = true ∧ k ≠ n ∧ k / 64 ^ (j + 1) = n / 64 ^ (j + 1)) ∧ (x &&& (18446744073709551615 - 2 ^ (n / 64 ^ j % 64)) = 0 → ∀ k, Q k = true → k ≠ n → k / 64 ^ (j + 1) ≠ n / 64 ^ (j + 1)) ∧ wown v (L2.map Prod.fst) g ∧
      ∃ L3 : List Lev, L3.map Prod.fst = L2.map Prod.fst ∧ Wt B (W.setCell ⟨g, n / 64 ^ j / 64, none⟩ (.int .u64 ((x &&& (18446744073709551615 - 2 ^ (n / 64 ^ j % 64)) : Nat) : Int))) v L3 ∧ Mix N Q (qdel Q n) (j + 1) (L3.map Prod.snd) := by
  have hsn : (L2.map Prod.snd)[j]? = some (L2[j]).2 := by rw [List.getElem?_map, List.getElem?_eq_getElem hj]; rfl
  have hlw : Lw N Q j (L2[j]).2 := (hm j _ hsn).2 (Nat.le_refl _)
  obtain ⟨g0, c0, g, c, e9, a1, a2, a3, a4, a5, a6, a7, a8, a9⟩ := h.met hj hlw.pos
  have hroom : n / 64 ^ (j + 1) < (L2[j]).2.length := hlw.room n hn
  have hx := List.getElem?_eq_getElem hroom
  have hadd := hlw.del hx ho
  have hlt := hlw.lt _ _ hx
  have hcell := a7 _ _ hx
  generalize (L2[j]).2[n / 64 ^ (j + 1)] = x at *
  have hleft := hadd.left (List.getElem?_set_self hroom)
  refine ⟨g0, c0, g, c, (L2[j]).2.length, x, e9, a3, by rw [← div64]; exact hroom, a5, a6, a2, by rw [← div64]; exact hcell, a8 _, hlt, hleft.1, hleft.2, a9, L2.set j (.slice (some ⟨g, 0, none⟩) (L2[j]).2.length c, (L2[j]).2.set (n / 64 ^ (j + 1)) (x &&& (18446744073709551615 - 2 ^ (n / 64 ^ j % 64)))), ?_, ?_, ?_⟩
  · rw [List.map_set]
    apply List.ext_getElem?
    intro q
    by_cases e : j = q
    · subst e
      rw [List.getElem?_set_self (by simpa using hj), List.getElem?_map, a4]; rfl
    · rw [List.getElem?_set_ne e]
  · rw [← div64]
    exact h.set a4 hroom _
  · rw [List.map_set]
    exact hm.step (by simpa using hj) hadd
theorem mixd_stop {N : Nat} {Q : Nat → Bool} {n j : Nat} {ws0 ws : List (List Nat)} (h : Lvs N Q ws0) (hl : ws.length = ws0.length) (hm : Mix N Q (qdel Q n) (j + 1) ws) (hs : ∃ k, Q k = true ∧ k ≠ n ∧ k / 64 ^ (j + 1) = n / 64 ^ (j + 1)) : Lvs N (qdel Q n) ws := by
  refine ⟨by rw [hl]; exact h.pos, by rw [hl]; exact h.few, by rw [hl]; exact h.top, fun k hk => ?_, fun i w hi => ?_⟩
  · simp only [qdel, Bool.and_eq_true] at hk
    exact h.sub k hk.1
  · by_cases hij : i < j + 1
    · exact (hm i w hi).1 hij
    · exact ((hm i w hi).2 (by omega)).del_stop hs (by omega)
theorem mixd_end {N : Nat} {Q : Nat → Bool} {n j : Nat} {ws0 ws : List (List Nat)} (h : Lvs N Q ws0) (hl : ws.length = ws0.length) (hm : Mix N Q (qdel Q n) j ws) (hj : j = ws.length) : Lvs N (qdel Q n) ws := by
  refine ⟨by rw [hl]; exact h.pos, by rw [hl]; exact h.few, by rw [hl]; exact h.top, fun k hk => ?_, fun i w hi => ?_⟩
  · simp only [qdel, Bool.and_eq_true] at hk
    exact h.sub k hk.1
  · exact (hm i w hi).1 (by rw [hj]; exact (List.getElem?_eq_some_iff.1 hi).1)
theorem cell_set_same {w : World} {g i : Nat} {x : Value} (h : w.cell? ⟨g, i, none⟩ = some x) (y : Value) : (w.setCell ⟨g, i, none⟩ y).cell? ⟨g, i, none⟩ = some y := by
  go_simp

theorem wTake_any (B : Nat) (v : Value) (fs : List Value) (N : Nat) (Q : Nat → Bool) (n : Nat) (w : World) (h : Wq B w v fs N Q) (hn : Q n = true) (hle : ∀ k, Q k = true → n ≤ k) (hN : N ≤ 2147483648) (hD : Deb w) :
    Calls Tryd.prog 53 #[v] w fun e w' => e = .returned (.int .i64 (n : Int)) ∧ Wq B w' v fs N (qdel Q n) ∧ Mo w (wown v fs) w' (wown v fs) := by
  obtain ⟨Ls, hfs, hw, hl⟩ := h
  have hpos : 0 < Ls.length := by have := hl.pos; simpa using this
  have hfew : Ls.length ≤ 6 := by have := hl.few; simpa using this
  have hnN : n < N := hl.sub n hn
  have htop : n / 64 ^ Ls.length = 0 := Nat.div_eq_of_lt (Nat.lt_of_lt_of_le hnN (by have := hl.top; simpa using this))
  obtain ⟨g0, c0, e0, k1, k2, -⟩ := row_some hw.row hpos
  have HL : Hid (Lvs N Q (Ls.map Prod.snd)) := hl
  have HW : Hid (Wt B w v Ls) := hw
  have HF : Hid (Ls.map Prod.fst = fs) := hfs
  have HAT : Hid (∀ j, j < Ls.length → ∃ g c len x, w.cell? ⟨g0, j, none⟩ = some (.slice (some ⟨g, 0, none⟩) len c) ∧ n / 64 ^ (j + 1) < len ∧ len ≤ c ∧ c ≤ maxLen ∧ w.cell? ⟨g, n / 64 ^ (j + 1), none⟩ = some (.int .u64 ((x : Nat) : Int)) ∧ x < 18446744073709551616 ∧ x ≠ 0 ∧ Lib.ctz 64 x < 64 ∧ 64 * (n / 64 ^ (j + 1)) + Lib.ctz 64 x = n / 64 ^ j) := fun j hj => by
    obtain ⟨g0', c0', g, c, len, x, e, r1, r2, r3, r4, r5, r⟩ := hw.leastAt hl hj hn hle
    rw [e0] at e
    injection e with e; injection e with e; injection e with e
    subst e
    exact ⟨g, c, len, x, r1, r2, r3, r4, r⟩
  generalize hK : Ls.length = K at *
  have HK : Hid (Ls.length = K) := hK
  have HQn : Hid (Q n = true ∧ n < N) := ⟨hn, hnN⟩
  clear hl hw hfs hK
  subst e0
  go_enter Tryd.func53, Tryd.ntmps53
  go_wp2
  go_loopg [3, 4] K (fun g n' k' wr => ∃ (j : Nat), j = g ∧ j ≤ K ∧ n' = .int .i64 ((n / 64 ^ j : Nat) : Int) ∧ k' = .int .i64 ((j : Int) - 1) ∧ wr = w)
  case atStart => exact ⟨K, rfl, Nat.le_refl _, by rw [htop]; rfl, rfl, rfl⟩
  case round =>
    obtain ⟨j, rfl, hj, rfl, rfl, hwr⟩ := hrel
    obtain rfl : w = wr := hwr.symm
    clear hwr
    by_cases hlt : 0 < j
    · obtain ⟨i, rfl⟩ : ∃ i, j = i + 1 := ⟨j - 1, by omega⟩
      have e1 : (((i + 1 : Nat) : Int) - 1) = i := by omega
      rw [e1]
      obtain ⟨g, c, len, x, a1, a2, a3, a4, a5, a6, a7, a8, a9⟩ := HAT.out i (by omega)
      have hb : n / 64 ^ (i + 1) ≤ 2147483648 := Nat.le_trans (Nat.div_le_self _ _) (by omega)
      have HA9 : Hid (64 * (n / 64 ^ (i + 1)) + Lib.ctz 64 x = n / 64 ^ i) := a9
      clear a9
      generalize n / 64 ^ (i + 1) = m at *
      go_wp2_with fail
      refine (tz64_any x a6 a7 _ hD.1).mono ?_
      rintro e w1 ⟨rfl, rfl⟩
      generalize Lib.ctz 64 x = z at *
      go_wp2
      go_roundg i
      case measure => omega
      case rel => exact ⟨i, rfl, by omega, by rw [← HA9.out]; go_num, rfl, rfl⟩
    · obtain rfl : j = 0 := by omega
      have e0 : n / 64 ^ 0 = n := by simp
      have hwn : IntKind.i64.wrap (n : Int) = n := by rw [IntKind.wrap_i64]; omega
      rw [e0]
      go_wp2
      go_loopg [5, 29] K (fun g n' j' wr => ∃ (j : Nat) (L2 : List Lev), j + g = K ∧ n' = .int .i64 ((n / 64 ^ j : Nat) : Int) ∧ j' = .int .i64 j ∧ L2.map Prod.fst = fs ∧ Wt B wr (.slice (some ⟨g0, 0, none⟩) K c0) L2 ∧ Mix N Q (qdel Q n) j (L2.map Prod.snd) ∧ (∀ k, Q k = true → k ≠ n → k / 64 ^ j ≠ n / 64 ^ j) ∧ Mo w (wown (.slice (some ⟨g0, 0, none⟩) K c0) fs) wr (wown (.slice (some ⟨g0, 0, none⟩) K c0) fs))
      case atStart => exact ⟨0, Ls, by omega, by simp, rfl, HF.out, HW.out, Mix.start HL.out, fun k _ hk => by simpa using hk, Mo.refl _ _⟩
      case round =>
        obtain ⟨j, L2, hj, rfl, rfl, h3, h4, h5, hoth, h6⟩ := hrel
        have HJ : Hid (j + gk = K) := hj
        have h7 : L2.length = K := by have h8 := congrArg List.length (h3.trans HF.out.symm); have h9 := HK.out; rw [List.length_map, List.length_map] at h8; omega
        by_cases hlt : j < K
        · obtain ⟨g0', c0', g, c, len, x, e9, a1, a2, a3, a4, a5, a6, a7, a8, a9, a10, a11, L3, b1, b2, b3⟩ := h4.delAt h5 (by omega : j < L2.length) HQn.out.2 hoth
          rw [h7] at e9
          injection e9 with e91 _ e93
          injection e91 with e91; injection e91 with e91
          subst e91; subst e93
          have HS : Hid (L3.map Prod.fst = fs ∧ Wt B (wr.setCell ⟨g, n / 64 ^ j / 64, none⟩ (.int .u64 ((x &&& (18446744073709551615 - 2 ^ (n / 64 ^ j % 64)) : Nat) : Int))) (.slice (some ⟨g0, 0, none⟩) K c0) L3 ∧ Mix N Q (qdel Q n) (j + 1) (L3.map Prod.snd) ∧ Mo w (wown (.slice (some ⟨g0, 0, none⟩) K c0) fs) (wr.setCell ⟨g, n / 64 ^ j / 64, none⟩ (.int .u64 ((x &&& (18446744073709551615 - 2 ^ (n / 64 ^ j % 64)) : Nat) : Int))) (wown (.slice (some ⟨g0, 0, none⟩) K c0) fs)) := ⟨b1.trans h3, b2, b3, h6.trans (Mo.set _ _ _ _ (by rw [← h3]; exact a11))⟩
          have HX1 : Hid (_ → _) := a9
          have HX2 : Hid (_ → _) := a10
          have HD : Hid (n / 64 ^ (j + 1) = n / 64 ^ j / 64) := div64 n j
          have hnj : n / 64 ^ j ≤ 2147483648 := Nat.le_trans (Nat.div_le_self _ _) (by omega)
          clear h3 h4 h5 h6 b1 b2 b3 a9 a10 a11 hj h7 hoth
          have hcl : (wr.setCell ⟨g, n / 64 ^ j / 64, none⟩ (.int .u64 ((x &&& (18446744073709551615 - 2 ^ (n / 64 ^ j % 64)) : Nat) : Int))).cell? ⟨g, n / 64 ^ j / 64, none⟩ = some (.int .u64 ((x &&& (18446744073709551615 - 2 ^ (n / 64 ^ j % 64)) : Nat) : Int)) := cell_set_same a6 _
          have hcl0 : (wr.setCell ⟨g, n / 64 ^ j / 64, none⟩ (.int .u64 ((x &&& (18446744073709551615 - 2 ^ (n / 64 ^ j % 64)) : Nat) : Int))).cell? ⟨g0, j, none⟩ = some (.slice (some ⟨g, 0, none⟩) len c) ∨ True := .inr trivial
          generalize n / 64 ^ j = m at *
          have t1 := tdiv64 m
          have t2 := tmod64 m
          have hm64 : m % 64 < 64 := Nat.mod_lt _ (by decide)
          have hpow : 2 ^ (m % 64) < 18446744073709551616 := Nat.pow_lt_pow_right (by decide : 1 < 2) hm64
          have hor := u64_andNot_nat x (2 ^ (m % 64)) a8 hpow
          have hsh := shl64 m
          generalize hmd : m / 64 = i at *
          have hwi : IntKind.i64.wrap (i : Int) = i := by rw [IntKind.wrap_i64]; omega
          generalize hpp : 2 ^ (m % 64) = pw at *
          generalize hyy : x &&& (18446744073709551615 - pw) = y at *
          clear hcl0
          go_upto_region 10 with fail
          go_region_law (fail)
          all_goals
            have HS2 : Hid (Wt B (wr.setCell ⟨g, i, none⟩ (.int .u64 (y : Int))).drew (.slice (some ⟨g0, 0, none⟩) K c0) L3 ∧ Mo w (wown (.slice (some ⟨g0, 0, none⟩) K c0) fs) (wr.setCell ⟨g, i, none⟩ (.int .u64 (y : Int))).drew (wown (.slice (some ⟨g0, 0, none⟩) K c0) fs)) := ⟨HS.out.2.1.kept fun _ _ => rfl, HS.out.2.2.2.trans (Mo.below (Below.refl _ _).drew)⟩
            have hcl2 : (wr.setCell ⟨g, i, none⟩ (.int .u64 (y : Int))).drew.cell? ⟨g, i, none⟩ = some (.int .u64 (y : Int)) := hcl
            generalize (wr.setCell ⟨g, i, none⟩ (.int .u64 (y : Int))).drew = w2 at *
            by_cases h0 : y = 0
            · have HC := HX2.out h0
              have HC2 : Hid _ := HC
              have HS3 : Hid (L3.map Prod.fst = fs ∧ Mix N Q (qdel Q n) (j + 1) (L3.map Prod.snd)) := ⟨HS.out.1, HS.out.2.2.1⟩
              clear HC HX1 HX2 HS hor hyy
              subst h0
              go_wp2
              go_roundg (gk - 1)
              case measure => have := HJ.out; omega
              case rel => exact ⟨j + 1, L3, by have := HJ.out; omega, by rw [HD.out], by go_num, HS3.out.1, HS2.out.1, HS3.out.2, HC2.out, HS2.out.2⟩
            · have HC : Hid _ := HX1.out h0
              have hx0 : ((y : Int) == 0) = false := by simpa using h0
              have hx1 : ((y : Int) != 0) = true := by simpa using h0
              go_wp2
              go_ret
              exact ⟨rfl, ⟨L3, HS.out.1, HS2.out.1, mixd_stop HL.out (by have h1 := congrArg List.length (HS.out.1.trans HF.out.symm); simpa using h1) HS.out.2.2.1 HC.out⟩, HS2.out.2⟩
        · obtain rfl : j = K := by have := HJ.out; omega
          have HS : Hid (Wq B wr (.slice (some ⟨g0, 0, none⟩) j c0) fs N (qdel Q n) ∧ Mo w (wown (.slice (some ⟨g0, 0, none⟩) j c0) fs) wr (wown (.slice (some ⟨g0, 0, none⟩) j c0) fs)) := ⟨⟨L2, h3, h4, mixd_end HL.out (by have h1 := congrArg List.length (h3.trans HF.out.symm); simpa using h1) h5 (by rw [List.length_map]; omega)⟩, h6⟩
          clear h3 h4 h5 h6
          go_wp2
          go_ret
          exact ⟨rfl, HS.out.1, HS.out.2⟩
end Go.Proofs.YtijhabhbeambeaaDoor
