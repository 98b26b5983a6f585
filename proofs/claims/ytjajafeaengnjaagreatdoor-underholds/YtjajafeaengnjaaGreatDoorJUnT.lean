/-
  joined: UnT UnM UnH UnPt
-/
import Derived.Test.YtjajafeaengnjaaGreatDoorKUnW
import Derived.Test.YtjajafeaengnjaaGreatDoorUnZ
import Derived.Test.YtjajafeaengnjaaGreatDoorJUnC
set_option linter.unusedSimpArgs false
set_option linter.unusedVariables false
namespace Go.Proofs.YtjajafeaengnjaaGreatDoor
open Go Go.RowKit

/-- the table of math/bits -/
def Deb (W : World) : Prop := TabAt 0 Lib.deBruijn64tab W ∧ 0 < W.heap.size
theorem Deb.below {W W' : World} (h : Deb W) (hb : Below W.heap.size W W') : Deb W' := ⟨fun j hj => (hb.cell (p := ⟨_, j, none⟩) h.2).trans (h.1 j hj), Nat.lt_of_lt_of_le h.2 hb.size⟩
theorem Deb.mo {w W W' : World} {P P' : Nat → Prop} (h : Deb w) (hb : Below w.heap.size w W) (hp : ∀ k, P k → w.heap.size ≤ k) (hm : Mo W P W' P') : Deb W' := h.below (Mo.bel hb hp hm)

/-- one level, the least number's word -/
theorem Wt.leastAt {B : Nat} {W : World} {v : Value} {Ls : List Lev} {N : Nat} {Q : Nat → Bool} {j n : Nat} (h : Wt B W v Ls) (hl : Lvs N Q (Ls.map Prod.snd)) (hj : j < Ls.length) (hn : Q n = true) (hle : ∀ k, Q k = true → n ≤ k) :
    ∃ g0 c0 g c len x, v = .slice (some ⟨g0, 0, none⟩) Ls.length c0 ∧ W.cell? ⟨g0, j, none⟩ = some (.slice (some ⟨g, 0, none⟩) len c) ∧ n / 64 ^ (j + 1) < len ∧ len ≤ c ∧ c ≤ maxLen ∧ c0 ≤ maxLen ∧ W.cell? ⟨g, n / 64 ^ (j + 1), none⟩ = some (.int .u64 ((x : Nat) : Int)) ∧ x < 18446744073709551616 ∧ x ≠ 0 ∧ Lib.ctz 64 x < 64 ∧ 64 * (n / 64 ^ (j + 1)) + Lib.ctz 64 x = n / 64 ^ j := by
  have hsn : (Ls.map Prod.snd)[j]? = some (Ls[j]).2 := by rw [List.getElem?_map, List.getElem?_eq_getElem hj]; rfl
  have hlw : Lw N Q j (Ls[j]).2 := hl.lv j _ hsn
  obtain ⟨g0, c0, g, c, e9, a1, a2, a3, a4, a5, a6, a7, a8, a9⟩ := h.met hj hlw.pos
  have hroom : n / 64 ^ (j + 1) < (Ls[j]).2.length := hlw.room n (hl.sub n hn)
  have hx := List.getElem?_eq_getElem hroom
  obtain ⟨l1, l2, l3⟩ := hlw.least hn hle hx
  exact ⟨g0, c0, g, c, (Ls[j]).2.length, _, e9, a3, hroom, a5, a6, a2, a7 _ _ hx, hlw.lt _ _ hx, l1, l2, l3⟩
/-- one level, cleared -/
theorem Wt.delAt {B : Nat} {W : World} {v : Value} {L2 : List Lev} {N : Nat} {Q : Nat → Bool} {j n : Nat} (h : Wt B W v L2) (hm : Mix N Q (qdel Q n) j (L2.map Prod.snd)) (hj : j < L2.length) (hn : n < N) (ho : ∀ k, Q k = true → k ≠ n → k / 64 ^ j ≠ n / 64 ^ j) :
    ∃ g0 c0 g c len x, v = .slice (some ⟨g0, 0, none⟩) L2.length c0 ∧ W.cell? ⟨g0, j, none⟩ = some (.slice (some ⟨g, 0, none⟩) len c) ∧ n / 64 ^ j / 64 < len ∧ len ≤ c ∧ c ≤ maxLen ∧ c0 ≤ maxLen ∧ W.cell? ⟨g, n / 64 ^ j / 64, none⟩ = some (.int .u64 ((x : Nat) : Int)) ∧ W.frozen? ⟨g, n / 64 ^ j / 64, none⟩ = false ∧ x < 18446744073709551616 ∧
      (x &&& (18446744073709551615 - 2 ^ (n / 64 ^ j % 64)) ≠ 0 → ∃ k, Q k = true ∧ k ≠ n ∧ k / 64 ^ (j + 1) = n / 64 ^ (j + 1)) ∧ (x &&& (18446744073709551615 - 2 ^ (n / 64 ^ j % 64)) = 0 → ∀ k, Q k = true → k ≠ n → k / 64 ^ (j + 1) ≠ n / 64 ^ (j + 1)) ∧ wown v (L2.map Prod.fst) g ∧
      ∃ L3 : List Lev, L3.map Prod.fst = L2.map Prod.fst ∧ Wt B (W.setCell ⟨g, n / 64 ^ j / 64, none⟩ (.int .u64 ((x &&& (18446744073709551615 - 2 ^ (n / 64 ^ j % 64)) : Nat) : Int))) v L3 ∧ Mix N Q (qdel Q n) (j + 1) (L3.map Prod.snd) := by
  have hsn : (L2.map Prod.snd)[j]? = some (L2[j]).2 := by rw [List.getElem?_map, List.getElem?_eq_getElem hj]; rfl
  have hlw : Lw N Q j (L2[j]).2 := (hm j _ hsn).2 (Nat.le_refl _)
  obtain ⟨g0, c0, g, c, e9, a1, a2, a3, a4, a5, a6, a7, a8, a9⟩ := h.met hj hlw.pos
  have hroom : n / 64 ^ (j + 1) < (L2[j]).2.length := hlw.room n hn
  have hx := List.getElem?_eq_getElem hroom
  have hadd := hlw.del hx ho
  have hlt := hlw.lt _ _ hx
  have hcell := a7 _ _ hx
  generalize (L2[j]).2[n / 64 ^ (j + 1)] = x at *
  have hleft := hadd.left (List.getElem?_set_self hroom)
  refine ⟨g0, c0, g, c, (L2[j]).2.length, x, e9, a3, by rw [← div64]; exact hroom, a5, a6, a2, by rw [← div64]; exact hcell, a8 _, hlt, hleft.1, hleft.2, a9, L2.set j (.slice (some ⟨g, 0, none⟩) (L2[j]).2.length c, (L2[j]).2.set (n / 64 ^ (j + 1)) (x &&& (18446744073709551615 - 2 ^ (n / 64 ^ j % 64)))), ?_, ?_, ?_⟩
  · rw [List.map_set]
    apply List.ext_getElem?
    intro q
    by_cases e : j = q
    · subst e
      rw [List.getElem?_set_self (by simpa using hj), List.getElem?_map, a4]; rfl
    · rw [List.getElem?_set_ne e]
  · rw [← div64]
    exact h.set a4 hroom _
  · rw [List.map_set]
    exact hm.step (by simpa using hj) hadd
theorem mixd_stop {N : Nat} {Q : Nat → Bool} {n j : Nat} {ws0 ws : List (List Nat)} (h : Lvs N Q ws0) (hl : ws.length = ws0.length) (hm : Mix N Q (qdel Q n) (j + 1) ws) (hs : ∃ k, Q k = true ∧ k ≠ n ∧ k / 64 ^ (j + 1) = n / 64 ^ (j + 1)) : Lvs N (qdel Q n) ws := by
  refine ⟨by rw [hl]; exact h.pos, by rw [hl]; exact h.few, by rw [hl]; exact h.top, fun k hk => ?_, fun i w hi => ?_⟩
  · simp only [qdel, Bool.and_eq_true] at hk
    exact h.sub k hk.1
  · by_cases hij : i < j + 1
    · exact (hm i w hi).1 hij
    · exact ((hm i w hi).2 (by omega)).del_stop hs (by omega)
theorem mixd_end {N : Nat} {Q : Nat → Bool} {n j : Nat} {ws0 ws : List (List Nat)} (h : Lvs N Q ws0) (hl : ws.length = ws0.length) (hm : Mix N Q (qdel Q n) j ws) (hj : j = ws.length) : Lvs N (qdel Q n) ws := by
  refine ⟨by rw [hl]; exact h.pos, by rw [hl]; exact h.few, by rw [hl]; exact h.top, fun k hk => ?_, fun i w hi => ?_⟩
  · simp only [qdel, Bool.and_eq_true] at hk
    exact h.sub k hk.1
  · exact (hm i w hi).1 (by rw [hj]; exact (List.getElem?_eq_some_iff.1 hi).1)
theorem cell_set_same {w : World} {g i : Nat} {x : Value} (h : w.cell? ⟨g, i, none⟩ = some x) (y : Value) : (w.setCell ⟨g, i, none⟩ y).cell? ⟨g, i, none⟩ = some y := by
  go_simp

theorem wTake_any (B : Nat) (v : Value) (fs : List Value) (N : Nat) (Q : Nat → Bool) (n : Nat) (w : World) (h : Wq B w v fs N Q) (hn : Q n = true) (hle : ∀ k, Q k = true → n ≤ k) (hN : N ≤ 2147483648) (hD : Deb w) :
    Calls Tryz.prog 132 #[v] w fun e w' => e = .returned (.int .i64 (n : Int)) ∧ Wq B w' v fs N (qdel Q n) ∧ Mo w (wown v fs) w' (wown v fs) := by
  obtain ⟨Ls, hfs, hw, hl⟩ := h
  have hpos : 0 < Ls.length := by have := hl.pos; simpa using this
  have hfew : Ls.length ≤ 6 := by have := hl.few; simpa using this
  have hnN : n < N := hl.sub n hn
  have htop : n / 64 ^ Ls.length = 0 := Nat.div_eq_of_lt (Nat.lt_of_lt_of_le hnN (by have := hl.top; simpa using this))
  obtain ⟨g0, c0, e0, k1, k2, -⟩ := row_some hw.row hpos
  have HL : Hid (Lvs N Q (Ls.map Prod.snd)) := hl
  have HW : Hid (Wt B w v Ls) := hw
  have HF : Hid (Ls.map Prod.fst = fs) := hfs
  have HAT : Hid (∀ j, j < Ls.length → ∃ g c len x, w.cell? ⟨g0, j, none⟩ = some (.slice (some ⟨g, 0, none⟩) len c) ∧ n / 64 ^ (j + 1) < len ∧ len ≤ c ∧ c ≤ maxLen ∧ w.cell? ⟨g, n / 64 ^ (j + 1), none⟩ = some (.int .u64 ((x : Nat) : Int)) ∧ x < 18446744073709551616 ∧ x ≠ 0 ∧ Lib.ctz 64 x < 64 ∧ 64 * (n / 64 ^ (j + 1)) + Lib.ctz 64 x = n / 64 ^ j) := fun j hj => by
    obtain ⟨g0', c0', g, c, len, x, e, r1, r2, r3, r4, r5, r⟩ := hw.leastAt hl hj hn hle
    rw [e0] at e
    injection e with e; injection e with e; injection e with e
    subst e
    exact ⟨g, c, len, x, r1, r2, r3, r4, r⟩
  generalize hK : Ls.length = K at *
  have HK : Hid (Ls.length = K) := hK
  have HQn : Hid (Q n = true ∧ n < N) := ⟨hn, hnN⟩
  clear hl hw hfs hK
  subst e0
  go_enter Tryz.func132, Tryz.ntmps132
  go_wp2
  go_loopg [3, 4] K (fun g n' k' wr => ∃ (j : Nat), j = g ∧ j ≤ K ∧ n' = .int .i64 ((n / 64 ^ j : Nat) : Int) ∧ k' = .int .i64 ((j : Int) - 1) ∧ wr = w)
  case atStart => exact ⟨K, rfl, Nat.le_refl _, by rw [htop]; rfl, rfl, rfl⟩
  case round =>
    obtain ⟨j, rfl, hj, rfl, rfl, hwr⟩ := hrel
    obtain rfl : w = wr := hwr.symm
    clear hwr
    by_cases hlt : 0 < j
    · obtain ⟨i, rfl⟩ : ∃ i, j = i + 1 := ⟨j - 1, by omega⟩
      have e1 : (((i + 1 : Nat) : Int) - 1) = i := by omega
      rw [e1]
      obtain ⟨g, c, len, x, a1, a2, a3, a4, a5, a6, a7, a8, a9⟩ := HAT.out i (by omega)
      have hb : n / 64 ^ (i + 1) ≤ 2147483648 := Nat.le_trans (Nat.div_le_self _ _) (by omega)
      have HA9 : Hid (64 * (n / 64 ^ (i + 1)) + Lib.ctz 64 x = n / 64 ^ i) := a9
      clear a9
      generalize n / 64 ^ (i + 1) = m at *
      go_wp2_with fail
      refine (tz64_any x a6 a7 _ hD.1).mono ?_
      rintro e w1 ⟨rfl, rfl⟩
      generalize Lib.ctz 64 x = z at *
      go_wp2
      go_roundg i
      case measure => omega
      case rel => exact ⟨i, rfl, by omega, by rw [← HA9.out]; go_num, rfl, rfl⟩
    · obtain rfl : j = 0 := by omega
      have e0 : n / 64 ^ 0 = n := by simp
      have hwn : IntKind.i64.wrap (n : Int) = n := by rw [IntKind.wrap_i64]; omega
      rw [e0]
      go_wp2
      go_loopg [5, 29] K (fun g n' j' wr => ∃ (j : Nat) (L2 : List Lev), j + g = K ∧ n' = .int .i64 ((n / 64 ^ j : Nat) : Int) ∧ j' = .int .i64 j ∧ L2.map Prod.fst = fs ∧ Wt B wr (.slice (some ⟨g0, 0, none⟩) K c0) L2 ∧ Mix N Q (qdel Q n) j (L2.map Prod.snd) ∧ (∀ k, Q k = true → k ≠ n → k / 64 ^ j ≠ n / 64 ^ j) ∧ Mo w (wown (.slice (some ⟨g0, 0, none⟩) K c0) fs) wr (wown (.slice (some ⟨g0, 0, none⟩) K c0) fs))
      case atStart => exact ⟨0, Ls, by omega, by simp, rfl, HF.out, HW.out, Mix.start HL.out, fun k _ hk => by simpa using hk, Mo.refl _ _⟩
      case round =>
        obtain ⟨j, L2, hj, rfl, rfl, h3, h4, h5, hoth, h6⟩ := hrel
        have HJ : Hid (j + gk = K) := hj
        have h7 : L2.length = K := by have h8 := congrArg List.length (h3.trans HF.out.symm); have h9 := HK.out; rw [List.length_map, List.length_map] at h8; omega
        by_cases hlt : j < K
        · obtain ⟨g0', c0', g, c, len, x, e9, a1, a2, a3, a4, a5, a6, a7, a8, a9, a10, a11, L3, b1, b2, b3⟩ := h4.delAt h5 (by omega : j < L2.length) HQn.out.2 hoth
          rw [h7] at e9
          injection e9 with e91 _ e93
          injection e91 with e91; injection e91 with e91
          subst e91; subst e93
          have HS : Hid (L3.map Prod.fst = fs ∧ Wt B (wr.setCell ⟨g, n / 64 ^ j / 64, none⟩ (.int .u64 ((x &&& (18446744073709551615 - 2 ^ (n / 64 ^ j % 64)) : Nat) : Int))) (.slice (some ⟨g0, 0, none⟩) K c0) L3 ∧ Mix N Q (qdel Q n) (j + 1) (L3.map Prod.snd) ∧ Mo w (wown (.slice (some ⟨g0, 0, none⟩) K c0) fs) (wr.setCell ⟨g, n / 64 ^ j / 64, none⟩ (.int .u64 ((x &&& (18446744073709551615 - 2 ^ (n / 64 ^ j % 64)) : Nat) : Int))) (wown (.slice (some ⟨g0, 0, none⟩) K c0) fs)) := ⟨b1.trans h3, b2, b3, h6.trans (Mo.set _ _ _ _ (by rw [← h3]; exact a11))⟩
          have HX1 : Hid (_ → _) := a9
          have HX2 : Hid (_ → _) := a10
          have HD : Hid (n / 64 ^ (j + 1) = n / 64 ^ j / 64) := div64 n j
          have hnj : n / 64 ^ j ≤ 2147483648 := Nat.le_trans (Nat.div_le_self _ _) (by omega)
          clear h3 h4 h5 h6 b1 b2 b3 a9 a10 a11 hj h7 hoth
          have hcl : (wr.setCell ⟨g, n / 64 ^ j / 64, none⟩ (.int .u64 ((x &&& (18446744073709551615 - 2 ^ (n / 64 ^ j % 64)) : Nat) : Int))).cell? ⟨g, n / 64 ^ j / 64, none⟩ = some (.int .u64 ((x &&& (18446744073709551615 - 2 ^ (n / 64 ^ j % 64)) : Nat) : Int)) := cell_set_same a6 _
          have hcl0 : (wr.setCell ⟨g, n / 64 ^ j / 64, none⟩ (.int .u64 ((x &&& (18446744073709551615 - 2 ^ (n / 64 ^ j % 64)) : Nat) : Int))).cell? ⟨g0, j, none⟩ = some (.slice (some ⟨g, 0, none⟩) len c) ∨ True := .inr trivial
          generalize n / 64 ^ j = m at *
          have t1 := tdiv64 m
          have t2 := tmod64 m
          have hm64 : m % 64 < 64 := Nat.mod_lt _ (by decide)
          have hpow : 2 ^ (m % 64) < 18446744073709551616 := Nat.pow_lt_pow_right (by decide : 1 < 2) hm64
          have hor := u64_andNot_nat x (2 ^ (m % 64)) a8 hpow
          have hsh := shl64 m
          generalize hmd : m / 64 = i at *
          have hwi : IntKind.i64.wrap (i : Int) = i := by rw [IntKind.wrap_i64]; omega
          generalize hpp : 2 ^ (m % 64) = pw at *
          generalize hyy : x &&& (18446744073709551615 - pw) = y at *
          clear hcl0
          go_upto_region 10 with fail
          go_region_law (fail)
          all_goals
            have HS2 : Hid (Wt B (wr.setCell ⟨g, i, none⟩ (.int .u64 (y : Int))).drew (.slice (some ⟨g0, 0, none⟩) K c0) L3 ∧ Mo w (wown (.slice (some ⟨g0, 0, none⟩) K c0) fs) (wr.setCell ⟨g, i, none⟩ (.int .u64 (y : Int))).drew (wown (.slice (some ⟨g0, 0, none⟩) K c0) fs)) := ⟨HS.out.2.1.kept fun _ _ => rfl, HS.out.2.2.2.trans (Mo.below (Below.refl _ _).drew)⟩
            have hcl2 : (wr.setCell ⟨g, i, none⟩ (.int .u64 (y : Int))).drew.cell? ⟨g, i, none⟩ = some (.int .u64 (y : Int)) := hcl
            generalize (wr.setCell ⟨g, i, none⟩ (.int .u64 (y : Int))).drew = w2 at *
            by_cases h0 : y = 0
            · have HC := HX2.out h0
              have HC2 : Hid _ := HC
              have HS3 : Hid (L3.map Prod.fst = fs ∧ Mix N Q (qdel Q n) (j + 1) (L3.map Prod.snd)) := ⟨HS.out.1, HS.out.2.2.1⟩
              clear HC HX1 HX2 HS hor hyy
              subst h0
              go_wp2
              go_roundg (gk - 1)
              case measure => have := HJ.out; omega
              case rel => exact ⟨j + 1, L3, by have := HJ.out; omega, by rw [HD.out], by go_num, HS3.out.1, HS2.out.1, HS3.out.2, HC2.out, HS2.out.2⟩
            · have HC : Hid _ := HX1.out h0
              have hx0 : ((y : Int) == 0) = false := by simpa using h0
              have hx1 : ((y : Int) != 0) = true := by simpa using h0
              go_wp2
              go_ret
              exact ⟨rfl, ⟨L3, HS.out.1, HS2.out.1, mixd_stop HL.out (by have h1 := congrArg List.length (HS.out.1.trans HF.out.symm); simpa using h1) HS.out.2.2.1 HC.out⟩, HS2.out.2⟩
        · obtain rfl : j = K := by have := HJ.out; omega
          have HS : Hid (Wq B wr (.slice (some ⟨g0, 0, none⟩) j c0) fs N (qdel Q n) ∧ Mo w (wown (.slice (some ⟨g0, 0, none⟩) j c0) fs) wr (wown (.slice (some ⟨g0, 0, none⟩) j c0) fs)) := ⟨⟨L2, h3, h4, mixd_end HL.out (by have h1 := congrArg List.length (h3.trans HF.out.symm); simpa using h1) h5 (by rw [List.length_map]; omega)⟩, h6⟩
          clear h3 h4 h5 h6
          go_wp2
          go_ret
          exact ⟨rfl, HS.out.1, HS.out.2⟩
end Go.Proofs.YtjajafeaengnjaaGreatDoor
set_option linter.unusedSimpArgs false
set_option linter.unusedVariables false
namespace Go.Proofs.YtjajafeaengnjaaGreatDoor
open Go Go.RowKit

def Ty (W : World) (g : Nat) (e : TypeId) : Prop := ∃ c f, W.heap[g]? = some (.cells c e f)
theorem Ty.unique {W : World} {g : Nat} {e e' : TypeId} (h : Ty W g e) (h' : Ty W g e') : e = e' := by
  obtain ⟨c, f, h⟩ := h
  obtain ⟨c', f', h'⟩ := h'
  rw [h] at h'
  injection h' with h'
  injection h'
theorem row_ty {W : World} {B e s n : Nat} {v : Value} {xs : List Value} (h : W.ownsRow B e s v n xs) {k : Nat} (hk : some k = v.ownBlock) : Ty W k e := by
  rcases h.2 with ⟨rfl, _⟩ | ⟨g, cap, cur, rfl, _, hg, _⟩
  · simp [Value.ownBlock] at hk
  · have : k = g := by simpa [Value.ownBlock] using hk
    subst this
    exact ⟨_, _, hg⟩
theorem row_other {W W' : World} {row : Option Nat} {B e e' s n : Nat} {v : Value} {xs : List Value} (h : W.ownsRow B e' s v n xs) (hg : W.grownBy W' row) (ht : ∀ g, row = some g → Ty W g e) (hne : e' ≠ e) : W'.ownsRow B e' s v n xs :=
  row_kept h fun k hk => hg.block k (h.lt k hk.symm).2 fun e1 => hne ((row_ty h hk).unique (ht k e1.symm))
theorem wq_ty {B : Nat} {W : World} {v : Value} {fs : List Value} {N : Nat} {Q : Nat → Bool} (h : Wq B W v fs N Q) {k : Nat} (hk : wown v fs k) : Ty W k 159 ∨ Ty W k 117 := by
  obtain ⟨Ls, rfl, hw, _⟩ := h
  rcases hk with hk | ⟨f, hf, hk⟩
  · exact .inl (row_ty hw.row hk)
  · obtain ⟨c, hc, rfl⟩ := List.mem_map.1 hf
    exact .inr (row_ty (hw.lv c hc) hk)
theorem wq_other {B : Nat} {W W' : World} {row : Option Nat} {v : Value} {fs : List Value} {N : Nat} {Q : Nat → Bool} {e : TypeId} (h : Wq B W v fs N Q) (hg : W.grownBy W' row) (ht : ∀ g, row = some g → Ty W g e) (h1 : 159 ≠ e) (h2 : 117 ≠ e) : Wq B W' v fs N Q :=
  h.kept fun k hk => hg.block k (h.lt k hk).2 fun e1 => by
    rcases wq_ty h hk with a | a
    · exact h1 (a.unique (ht k e1.symm))
    · exact h2 (a.unique (ht k e1.symm))
theorem Mo.grown {W W' : World} {row : Option Nat} {P : Nat → Prop} (hg : W.grownBy W' row) (h : ∀ g, row = some g → P g) : Mo W P W' P :=
  ⟨hg.os, hg.tape, hg.output, hg.size, fun k hk hn => hg.block k hk fun e => hn (h k e.symm), fun _ h => .inl h⟩

structure Sz where
  C : Value
  I : Value
  E : Value
  F : Value
  P : Value
  W : Value
  S : Value
  L : List Value
def Sz.own (s : Sz) (b k : Nat) : Prop := k = b ∨ some k = s.I.ownBlock ∨ some k = s.E.ownBlock ∨ some k = s.F.ownBlock ∨ some k = s.P.ownBlock ∨ some k = s.S.ownBlock ∨ wown s.W s.L k
def i32s (xs : List Int) : List Value := xs.map (Value.int .i32)
def twp (P : List (Nat × Nat)) : List Value := P.flatMap fun c => [.int .i32 (c.1 : Int), .int .i32 (c.2 : Int)]
def twc (cs : List (Int × Nat)) : List Value := cs.flatMap fun c => [.int .i64 c.1, .int .i64 (c.2 : Int)]
theorem flat2_at {α : Type} (f g : α → Value) : ∀ (P : List α) (p : Nat) (x : α), P[p]? = some x → (P.flatMap fun c => [f c, g c])[p * 2]? = some (f x) ∧ (P.flatMap fun c => [f c, g c])[p * 2 + 1]? = some (g x)
  | [], p, x, h => by simp at h
  | y :: r, 0, x, h => by
    have e : y = x := by simpa using h
    subst e; simp
  | y :: r, p + 1, x, h => by
    have := flat2_at f g r p x (by simpa using h)
    rw [List.flatMap_cons, Nat.succ_mul]
    simpa using this
theorem flat2_len {α : Type} (f g : α → Value) (P : List α) : (P.flatMap fun c => [f c, g c]).length = P.length * 2 := by
  induction P with
  | nil => rfl
  | cons y r ih => rw [List.flatMap_cons, List.length_append, ih]; simp; omega
theorem twp_at {P : List (Nat × Nat)} {p k q : Nat} (h : P[p]? = some (k, q)) : (twp P)[p * 2]? = some (.int .i32 (k : Int)) ∧ (twp P)[p * 2 + 1]? = some (.int .i32 (q : Int)) := flat2_at _ _ P p _ h
theorem twc_at {P : List (Int × Nat)} {p : Nat} {l : Int} {k : Nat} (h : P[p]? = some (l, k)) : (twc P)[p * 2]? = some (.int .i64 l) ∧ (twc P)[p * 2 + 1]? = some (.int .i64 (k : Int)) := flat2_at _ _ P p _ h
/-- a closing as it lies -/
structure Cz (B : Nat) (W : World) (b : Nat) (s : Sz) (n N : Nat) (A : List Bool) (E : List Int) (F : List Nat) (P : List (Nat × Nat)) (Q : Nat → Bool) (cs : List (Int × Nat)) : Prop where
  box : W.heap[b]? = some (.cells #[s.C, s.I, s.E, s.F, s.P, s.W, s.S] 141 (0, 0))
  hb : B ≤ b
  i : W.ownsRow B 4 1 s.I n (A.map Value.bool)
  e : W.ownsRow B 21 1 s.E N (i32s E)
  f : W.ownsRow B 21 1 s.F n (i32s (F.map fun (x : Nat) => (x : Int)))
  p : W.ownsRow B 156 2 s.P P.length (twp P)
  w : Wq B W s.W s.L N Q
  c : W.ownsRow B 143 2 s.S cs.length (twc cs)
  ef : ∀ k, some k = s.E.ownBlock → some k ≠ s.F.ownBlock
section
variable {B : Nat} {W W' : World} {b : Nat} {s : Sz} {n N : Nat} {A : List Bool} {E : List Int} {F : List Nat} {P : List (Nat × Nat)} {Q : Nat → Bool} {cs : List (Int × Nat)}
theorem Cz.ty (h : Cz B W b s n N A E F P Q cs) : Ty W b 141 := ⟨_, _, h.box⟩
theorem Cz.blt (h : Cz B W b s n N A E F P Q cs) : b < W.heap.size := (Array.getElem?_eq_some_iff.1 h.box).1
theorem Cz.lt (h : Cz B W b s n N A E F P Q cs) : ∀ k, s.own b k → B ≤ k ∧ k < W.heap.size := by
  rintro k (rfl | hk | hk | hk | hk | hk | hk)
  · exact ⟨h.hb, h.blt⟩
  · exact h.i.lt k hk.symm
  · exact h.e.lt k hk.symm
  · exact h.f.lt k hk.symm
  · exact h.p.lt k hk.symm
  · exact h.c.lt k hk.symm
  · exact h.w.lt k hk
theorem Cz.kept (h : Cz B W b s n N A E F P Q cs) (hk : ∀ k, s.own b k → W'.heap[k]? = W.heap[k]?) : Cz B W' b s n N A E F P Q cs :=
  ⟨(hk b (.inl rfl)).trans h.box, h.hb, row_kept h.i fun k e => hk k (.inr (.inl e)), row_kept h.e fun k e => hk k (.inr (.inr (.inl e))), row_kept h.f fun k e => hk k (.inr (.inr (.inr (.inl e)))), row_kept h.p fun k e => hk k (.inr (.inr (.inr (.inr (.inl e))))), h.w.kept fun k e => hk k (.inr (.inr (.inr (.inr (.inr (.inr e)))))), row_kept h.c fun k e => hk k (.inr (.inr (.inr (.inr (.inr (.inl e)))))), h.ef⟩
theorem Cz.below (h : Cz B W b s n N A E F P Q cs) (hb : Below W.heap.size W W') : Cz B W' b s n N A E F P Q cs := h.kept fun k hk => hb.block k (h.lt k hk).2
theorem Cz.cell (h : Cz B W b s n N A E F P Q cs) (j : Nat) (x : Value) (hx : #[s.C, s.I, s.E, s.F, s.P, s.W, s.S][j]? = some x) : W.cell? ⟨b, j, none⟩ = some x := by simp [World.cell?, h.box]; simpa using hx
theorem Cz.c0 (h : Cz B W b s n N A E F P Q cs) : W.cell? ⟨b, 0, none⟩ = some s.C := h.cell 0 _ rfl
theorem Cz.c1 (h : Cz B W b s n N A E F P Q cs) : W.cell? ⟨b, 1, none⟩ = some s.I := h.cell 1 _ rfl
theorem Cz.c2 (h : Cz B W b s n N A E F P Q cs) : W.cell? ⟨b, 2, none⟩ = some s.E := h.cell 2 _ rfl
theorem Cz.c3 (h : Cz B W b s n N A E F P Q cs) : W.cell? ⟨b, 3, none⟩ = some s.F := h.cell 3 _ rfl
theorem Cz.c4 (h : Cz B W b s n N A E F P Q cs) : W.cell? ⟨b, 4, none⟩ = some s.P := h.cell 4 _ rfl
theorem Cz.c5 (h : Cz B W b s n N A E F P Q cs) : W.cell? ⟨b, 5, none⟩ = some s.W := h.cell 5 _ rfl
theorem Cz.c6 (h : Cz B W b s n N A E F P Q cs) : W.cell? ⟨b, 6, none⟩ = some s.S := h.cell 6 _ rfl
theorem Cz.fz (h : Cz B W b s n N A E F P Q cs) (j : Nat) : W.frozen? ⟨b, j, none⟩ = false := by simp [World.frozen?, h.box]
theorem box_other {row : Option Nat} {e : TypeId} {o : Array Value} {t : TypeId} {f : Nat × Nat} (h : W.heap[b]? = some (.cells o t f)) (hg : W.grownBy W' row) (ht : ∀ g, row = some g → Ty W g e) (hne : t ≠ e) : W'.heap[b]? = some (.cells o t f) :=
  (hg.block b (Array.getElem?_eq_some_iff.1 h).1 (fun e1 => hne ((show Ty W b t from ⟨_, _, h⟩).unique (ht b e1.symm)))).trans h
theorem Cz.setI (h : Cz B W b s n N A E F P Q cs) {g cap k : Nat} (hv : s.I = .slice (some ⟨g, 0, none⟩) n cap) (hk : k < n) (z : Bool) : Cz B (W.setCell ⟨g, k, none⟩ (.bool z)) b s n N (A.set k z) E F P Q cs ∧ Mo W (s.own b) (W.setCell ⟨g, k, none⟩ (.bool z)) (s.own b) := by
  have hg := grown_set W ⟨g, k, none⟩ (.bool z)
  have ht : ∀ x, some g = some x → Ty W x 4 := fun x e => row_ty h.i (by rw [hv, ← e]; rfl)
  refine ⟨⟨box_other h.box hg ht (by decide), h.hb, ?_, row_other h.e hg ht (by decide), row_other h.f hg ht (by decide), row_other h.p hg ht (by decide), wq_other h.w hg ht (by decide) (by decide), row_other h.c hg ht (by decide), h.ef⟩, Mo.grown hg fun x e => .inr (.inl (by rw [hv, ← e]; rfl))⟩
  have h1 := h.i
  rw [hv] at h1 ⊢
  rw [List.map_set]
  exact own_cell h1 (by omega) _
theorem Cz.setE (h : Cz B W b s n N A E F P Q cs) {g cap k : Nat} (hv : s.E = .slice (some ⟨g, 0, none⟩) N cap) (hk : k < N) (z : Int) : Cz B (W.setCell ⟨g, k, none⟩ (.int .i32 z)) b s n N A (E.set k z) F P Q cs ∧ Mo W (s.own b) (W.setCell ⟨g, k, none⟩ (.int .i32 z)) (s.own b) := by
  have hg := grown_set W ⟨g, k, none⟩ (.int .i32 z)
  have ht : ∀ x, some g = some x → Ty W x 21 := fun x e => row_ty h.e (by rw [hv, ← e]; rfl)
  have hgE : some g = s.E.ownBlock := by rw [hv]; rfl
  refine ⟨⟨box_other h.box hg ht (by decide), h.hb, row_other h.i hg ht (by decide), ?_, row_kept h.f fun q hq => hg.block q (h.f.lt q hq.symm).2 (fun e1 => h.ef q (by rw [e1]; exact hgE) hq), row_other h.p hg ht (by decide), wq_other h.w hg ht (by decide) (by decide), row_other h.c hg ht (by decide), h.ef⟩, Mo.grown hg fun x e => .inr (.inr (.inl (by rw [hv, ← e]; rfl)))⟩
  have h1 := h.e
  rw [hv] at h1 ⊢
  have e2 : i32s (E.set k z) = (i32s E).set k (.int .i32 z) := by unfold i32s; rw [List.map_set]
  rw [e2]
  exact own_cell h1 (by omega) _
theorem Cz.setF (h : Cz B W b s n N A E F P Q cs) {g cap k : Nat} (hv : s.F = .slice (some ⟨g, 0, none⟩) n cap) (hk : k < n) (z : Nat) : Cz B (W.setCell ⟨g, k, none⟩ (.int .i32 (z : Int))) b s n N A E (F.set k z) P Q cs ∧ Mo W (s.own b) (W.setCell ⟨g, k, none⟩ (.int .i32 (z : Int))) (s.own b) := by
  have hg := grown_set W ⟨g, k, none⟩ (.int .i32 (z : Int))
  have ht : ∀ x, some g = some x → Ty W x 21 := fun x e => row_ty h.f (by rw [hv, ← e]; rfl)
  have hgF : some g = s.F.ownBlock := by rw [hv]; rfl
  refine ⟨⟨box_other h.box hg ht (by decide), h.hb, row_other h.i hg ht (by decide), row_kept h.e fun q hq => hg.block q (h.e.lt q hq.symm).2 (fun e1 => h.ef q hq (by rw [e1]; exact hgF)), ?_, row_other h.p hg ht (by decide), wq_other h.w hg ht (by decide) (by decide), row_other h.c hg ht (by decide), h.ef⟩, Mo.grown hg fun x e => .inr (.inr (.inr (.inl (by rw [hv, ← e]; rfl))))⟩
  have h1 := h.f
  rw [hv] at h1 ⊢
  have e2 : i32s ((F.set k z).map fun (x : Nat) => (x : Int)) = (i32s (F.map fun (x : Nat) => (x : Int))).set k (.int .i32 (z : Int)) := by unfold i32s; rw [List.map_set, List.map_set]
  rw [e2]
  exact own_cell h1 (by omega) _
theorem Cz.putW (h : Cz B W b s n N A E F P Q cs) {Q' : Nat → Bool} (hw : Wq B W' s.W s.L N Q') (hm : Mo W (wown s.W s.L) W' (wown s.W s.L)) : Cz B W' b s n N A E F P Q' cs ∧ Mo W (s.own b) W' (s.own b) := by
  have kb : ∀ k, k < W.heap.size → (∀ e, Ty W k e → e ≠ 159 ∧ e ≠ 117) → (∃ e, Ty W k e) → W'.heap[k]? = W.heap[k]? := fun k hk h1 ⟨e, he⟩ => hm.block k hk fun ho => by
    rcases wq_ty h.w ho with a | a
    · exact (h1 _ he).1 (he.unique a)
    · exact (h1 _ he).2 (he.unique a)
  have kr : ∀ {e sz m : Nat} {v : Value} {xs : List Value}, W.ownsRow B e sz v m xs → e ≠ 159 → e ≠ 117 → W'.ownsRow B e sz v m xs := fun {e sz m v xs} hr h1 h2 => row_kept hr fun k hk => kb k (hr.lt k hk.symm).2 (fun e' he' => by have := (row_ty hr hk).unique he'; subst this; exact ⟨h1, h2⟩) ⟨e, row_ty hr hk⟩
  refine ⟨⟨(kb b h.blt (fun e he => by have := h.ty.unique he; subst this; exact ⟨by decide, by decide⟩) ⟨_, h.ty⟩).trans h.box, h.hb, kr h.i (by decide) (by decide), kr h.e (by decide) (by decide), kr h.f (by decide) (by decide), kr h.p (by decide) (by decide), hw, kr h.c (by decide) (by decide), h.ef⟩, ?_⟩
  exact ⟨hm.os, hm.tape, hm.output, hm.size, fun k hk hn => hm.block k hk fun ho => hn (.inr (.inr (.inr (.inr (.inr (.inr ho)))))), fun _ h => .inl h⟩
/-- a field of the box is another -/
theorem set_other {b j : Nat} {v : Value} {o : Array Value} {t : TypeId} {f : Nat × Nat} (hb : W.heap[b]? = some (.cells o t f)) {e sz m : Nat} {u : Value} {xs : List Value} (h : W.ownsRow B e sz u m xs) (hne : e ≠ t) : (W.setCell ⟨b, j, none⟩ v).ownsRow B e sz u m xs :=
  row_other h (grown_set W ⟨b, j, none⟩ v) (fun g e1 => by injection e1 with e1; subst e1; exact ⟨_, _, hb⟩) hne
theorem setW_other {b j : Nat} {v : Value} {o : Array Value} {t : TypeId} {f : Nat × Nat} (hb : W.heap[b]? = some (.cells o t f)) {u : Value} {fs : List Value} (h : Wq B W u fs N Q) (h1 : 159 ≠ t) (h2 : 117 ≠ t) : Wq B (W.setCell ⟨b, j, none⟩ v) u fs N Q :=
  wq_other h (grown_set W ⟨b, j, none⟩ v) (fun g e1 => by injection e1 with e1; subst e1; exact ⟨_, _, hb⟩) h1 h2
theorem Cz.putP {W1 : World} {u : Value} {P' : List (Nat × Nat)} (h : Cz B W b s n N A E F P Q cs) (hg : W.grownBy W1 s.P.ownBlock) (hn : u.ownBlock = s.P.ownBlock ∨ ∀ g, u.ownBlock = some g → W.heap.size ≤ g) (ho : W1.ownsRow B 156 2 u P'.length (twp P')) :
    Cz B (W1.setCell ⟨b, 4, none⟩ u) b { s with P := u } n N A E F P' Q cs ∧ Mo W (s.own b) (W1.setCell ⟨b, 4, none⟩ u) (({ s with P := u } : Sz).own b) := by
  have ht : ∀ x, s.P.ownBlock = some x → Ty W x 156 := fun x e => row_ty h.p e.symm
  have hb := box_other h.box hg ht (by decide)
  refine ⟨⟨set_heap hb 4 u, h.hb, set_other hb (row_other h.i hg ht (by decide)) (by decide), set_other hb (row_other h.e hg ht (by decide)) (by decide), set_other hb (row_other h.f hg ht (by decide)) (by decide), set_other hb ho (by decide), setW_other hb (wq_other h.w hg ht (by decide) (by decide)) (by decide) (by decide), set_other hb (row_other h.c hg ht (by decide)) (by decide), h.ef⟩, ?_⟩
  have hs := grown_set W1 ⟨b, 4, none⟩ u
  refine ⟨hs.os.trans hg.os, hs.tape.trans hg.tape, hs.output.trans hg.output, Nat.le_trans hg.size hs.size, fun i hi h1 => ?_, ?_⟩
  · exact (hs.block i (Nat.lt_of_lt_of_le hi hg.size) (fun e1 => h1 (.inl (by simpa using e1)))).trans (hg.block i hi (fun e1 => h1 (.inr (.inr (.inr (.inr (.inl e1)))))))
  · rintro k (hk | hk | hk | hk | hk | hk | hk)
    · exact .inl (.inl hk)
    · exact .inl (.inr (.inl hk))
    · exact .inl (.inr (.inr (.inl hk)))
    · exact .inl (.inr (.inr (.inr (.inl hk))))
    · rcases hn with e | e
      · exact .inl (.inr (.inr (.inr (.inr (.inl (by rw [← e]; exact hk))))))
      · exact .inr (e k hk.symm)
    · exact .inl (.inr (.inr (.inr (.inr (.inr (.inl hk))))))
    · exact .inl (.inr (.inr (.inr (.inr (.inr (.inr hk))))))
theorem Cz.putS {W1 : World} {u : Value} {cs' : List (Int × Nat)} (h : Cz B W b s n N A E F P Q cs) (hg : W.grownBy W1 s.S.ownBlock) (hn : u.ownBlock = s.S.ownBlock ∨ ∀ g, u.ownBlock = some g → W.heap.size ≤ g) (ho : W1.ownsRow B 143 2 u cs'.length (twc cs')) :
    Cz B (W1.setCell ⟨b, 6, none⟩ u) b { s with S := u } n N A E F P Q cs' ∧ Mo W (s.own b) (W1.setCell ⟨b, 6, none⟩ u) (({ s with S := u } : Sz).own b) := by
  have ht : ∀ x, s.S.ownBlock = some x → Ty W x 143 := fun x e => row_ty h.c e.symm
  have hb := box_other h.box hg ht (by decide)
  refine ⟨⟨set_heap hb 6 u, h.hb, set_other hb (row_other h.i hg ht (by decide)) (by decide), set_other hb (row_other h.e hg ht (by decide)) (by decide), set_other hb (row_other h.f hg ht (by decide)) (by decide), set_other hb (row_other h.p hg ht (by decide)) (by decide), setW_other hb (wq_other h.w hg ht (by decide) (by decide)) (by decide) (by decide), set_other hb ho (by decide), h.ef⟩, ?_⟩
  have hs := grown_set W1 ⟨b, 6, none⟩ u
  refine ⟨hs.os.trans hg.os, hs.tape.trans hg.tape, hs.output.trans hg.output, Nat.le_trans hg.size hs.size, fun i hi h1 => ?_, ?_⟩
  · exact (hs.block i (Nat.lt_of_lt_of_le hi hg.size) (fun e1 => h1 (.inl (by simpa using e1)))).trans (hg.block i hi (fun e1 => h1 (.inr (.inr (.inr (.inr (.inr (.inl e1))))))))
  · rintro k (hk | hk | hk | hk | hk | hk | hk)
    · exact .inl (.inl hk)
    · exact .inl (.inr (.inl hk))
    · exact .inl (.inr (.inr (.inl hk)))
    · exact .inl (.inr (.inr (.inr (.inl hk))))
    · exact .inl (.inr (.inr (.inr (.inr (.inl hk)))))
    · rcases hn with e | e
      · exact .inl (.inr (.inr (.inr (.inr (.inr (.inl (by rw [← e]; exact hk)))))))
      · exact .inr (e k hk.symm)
    · exact .inl (.inr (.inr (.inr (.inr (.inr (.inr hk))))))
end
/-- a formula whose literals' places are noted: n is twice a variable that is at least the greatest one -/
structure Fit (X : List (List Int)) (n : Nat) : Prop where
  hn : n ≤ 2097152
  ev : n % 2 = 0
  num : X.length ≤ 1073741824
  len : ∀ c ∈ X, c.length ≤ 1073741824
  lit : ∀ c ∈ X, ∀ l ∈ c, fmd l = true ∧ idx l < n
theorem idx_neg_lt {l : Int} {n : Nat} (hf : fmd l = true) (hev : n % 2 = 0) (h : idx l < n) : idx (-l) < n := by
  have hn := fmd_neg hf
  have hr := fmd_range hf
  rcases (show 0 < l ∨ l < 0 by omega) with hs | hs
  · rw [(there_pos hf hs).1] at h; rw [(there_neg hn (by omega)).1]; omega
  · rw [(there_neg hf hs).1] at h; rw [(there_pos hn (by omega)).1]; omega
/-- a closing that has come to L -/
structure Cw (w0 W : World) (b : Nat) (s : Sz) (n : Nat) (X : List (List Int)) (L : List Int) (Q : Nat → Bool) (cs : List (Int × Nat)) : Prop where
  bel : Below w0.heap.size w0 W
  fit : Fit X n
  z : ∃ F P, Cz w0.heap.size W b s n X.length (inLs n L) (lefts X L) F P Q cs ∧ Pls X n F P ∧ P.length ≤ 2147483648
section
variable {w0 W W' : World} {b : Nat} {s s' : Sz} {n : Nat} {X X' : List (List Int)} {L L' : List Int} {Q Q' : Nat → Bool} {cs cs' : List (Int × Nat)}
theorem Cw.lt (h : Cw w0 W b s n X L Q cs) : ∀ k, s.own b k → w0.heap.size ≤ k ∧ k < W.heap.size := by
  obtain ⟨F, P, hz, _⟩ := h.z
  exact hz.lt
theorem Cw.below (h : Cw w0 W b s n X L Q cs) (hb : Below W.heap.size W W') : Cw w0 W' b s n X L Q cs := by
  obtain ⟨F, P, hz, hp⟩ := h.z
  exact ⟨Below.step h.bel hb, h.fit, F, P, hz.below hb, hp⟩
theorem Cw.congr (h : Cw w0 W b s n X L Q cs) (hL : ∀ x, fmd x = true → idx x < n → (x ∈ L ↔ x ∈ L')) : Cw w0 W b s n X L' Q cs := by
  obtain ⟨F, P, hz, hp⟩ := h.z
  refine ⟨h.bel, h.fit, F, P, ?_, hp⟩
  rw [← inLs_congr h.fit.hn hL]
  have : lefts X L = lefts X L' := by
    unfold lefts
    apply List.map_congr_left
    intro c hc
    congr 1
    refine cnt_congr (fun _ => Iff.rfl) fun x hx => ?_
    have := h.fit.lit c hc x hx
    exact hL _ (fmd_neg this.1) (idx_neg_lt this.1 h.fit.ev this.2)
  rw [← this]
  exact hz
end
end Go.Proofs.YtjajafeaengnjaaGreatDoor
set_option linter.unusedSimpArgs false
set_option linter.unusedVariables false
namespace Go.Proofs.YtjajafeaengnjaaGreatDoor
open Go Go.RowKit

theorem uMeets_any (w0 : World) (b : Nat) (s : Sz) (n : Nat) (X : List (List Int)) (L : List Int) (Q : Nat → Bool) (cs : List (Int × Nat)) (l : Int) (w : World) (h : Cw w0 w b s n X L Q cs) :
    Calls Tryz.prog 128 #[.pointer (some ⟨b, 0, none⟩), .int .i64 l] w fun e w' => e = .returned (.bool (decide (idx l < n))) ∧ Below w.heap.size w w' := by
  obtain ⟨F, P, hz, -⟩ := h.z
  have hn := h.fit.hn
  obtain ⟨a, c, ei⟩ := row_form' hz.i
  have c1 := hz.c1
  rw [ei] at c1
  clear hz h ei
  go_enter Tryz.func128, Tryz.ntmps128
  go_upto_region 1 with fail
  go_region_law (go_simp; go_at_call 60; refine (index_any _ _).mono ?_; intro e w9 hh; rw [hh.1, hh.2]; clear hh e w9; dsimp only)
  all_goals
    go_wp2
    go_ret
    exact ⟨rfl, (Below.refl _ _).drew⟩
theorem uHolds_any (w0 : World) (b : Nat) (s : Sz) (n : Nat) (X : List (List Int)) (L : List Int) (Q : Nat → Bool) (cs : List (Int × Nat)) (l : Int) (w : World) (h : Cw w0 w b s n X L Q cs) (hf : fmd l = true) (hl : idx l < n) :
    Calls Tryz.prog 129 #[.pointer (some ⟨b, 0, none⟩), .int .i64 l] w fun e w' => e = .returned (.bool (decide (l ∈ L))) ∧ Below w.heap.size w w' := by
  obtain ⟨F, P, hz, -⟩ := h.z
  have hn := h.fit.hn
  obtain ⟨i, hi⟩ : ∃ i : Nat, idx l = i := ⟨(idx l).toNat, by have := idx_range hf; omega⟩
  have hin : i < n := by omega
  obtain ⟨g, c, ei, k1, k2, k3⟩ := row_some hz.i (by omega)
  have c1 := hz.c1
  have hrow := hz.i
  rw [ei] at c1 hrow
  have hc := row_cell hrow (j := i) (x := .bool (decide (l ∈ L))) (by rw [List.getElem?_map, inLs_at hf hi hin]; rfl)
  have HI : Hid (idx l = i) := hi
  clear hz h ei hrow hi hl
  generalize decide (l ∈ L) = z at *
  go_enter Tryz.func129, Tryz.ntmps129
  go_upto_region 1 with fail
  go_region_law (go_simp; go_at_call 60; refine (index_any _ _).mono ?_; intro e w9 hh; rw [hh.1, hh.2, HI.out]; clear hh e w9; dsimp only)
  all_goals
    go_wp2
    go_ret
    exact ⟨rfl, (Below.refl _ _).drew⟩
end Go.Proofs.YtjajafeaengnjaaGreatDoor
set_option linter.unusedSimpArgs false
set_option linter.unusedVariables false
namespace Go.Proofs.YtjajafeaengnjaaGreatDoor
open Go Go.RowKit

/-- what is left, where the clauses ks are still to be counted -/
def lfm (X : List (List Int)) (L L' : List Int) (ks : List Nat) : List Int := (List.range X.length).map fun (k : Nat) => if k ∈ ks then (cnt L (X.getD k []) : Int) else (cnt L' (X.getD k []) : Int)
theorem wrap_i32' (n : Int) : IntKind.i32.wrap n = (n + 2147483648) % 4294967296 - 2147483648 := by
  simp [IntKind.wrap, IntKind.bits, IntKind.signed]
  split <;> omega
theorem lfm_len (X : List (List Int)) (L L' : List Int) (ks : List Nat) : (lfm X L L' ks).length = X.length := by simp [lfm]
theorem lefts_range (X : List (List Int)) (L : List Int) : lefts X L = (List.range X.length).map fun (k : Nat) => (cnt L (X.getD k []) : Int) := by
  unfold lefts
  apply List.ext_getElem?
  intro i
  by_cases h : i < X.length
  · rw [List.getElem?_map, List.getElem?_map, List.getElem?_range h, List.getElem?_eq_getElem h]
    simp [List.getD_eq_getElem?_getD, List.getElem?_eq_getElem h]
  · rw [List.getElem?_eq_none (by simpa using h), List.getElem?_eq_none (by simpa using h)]
theorem lfm_start {X : List (List Int)} {L L' : List Int} {ks : List Nat} (h : ∀ k, k < X.length → k ∉ ks → cnt L' (X.getD k []) = cnt L (X.getD k [])) : lfm X L L' ks = lefts X L := by
  rw [lefts_range]
  unfold lfm
  apply List.map_congr_left
  intro k hk
  have hk := List.mem_range.1 hk
  show (if _ then _ else _) = _
  split
  · rfl
  · rename_i hn; rw [h k hk hn]
theorem lfm_end (X : List (List Int)) (L L' : List Int) : lfm X L L' [] = lefts X L' := by
  rw [lefts_range]
  unfold lfm
  apply List.map_congr_left
  intro k hk
  simp
theorem lfm_at {X : List (List Int)} {L L' : List Int} {ks : List Nat} {k : Nat} (hk : k < X.length) (h : k ∈ ks) : (lfm X L L' ks)[k]? = some (cnt L (X.getD k []) : Int) := by
  unfold lfm
  rw [List.getElem?_map, List.getElem?_range hk]
  show some (if k ∈ ks then _ else _) = _
  rw [if_pos h]
theorem lfm_step {X : List (List Int)} {L L' : List Int} {ks : List Nat} {k : Nat} (hk : k < X.length) (h : k ∉ ks) : (lfm X L L' (k :: ks)).set k (cnt L' (X.getD k []) : Int) = lfm X L L' ks := by
  apply List.ext_getElem?
  intro i
  by_cases hi : i < X.length
  · by_cases e : k = i
    · subst e
      rw [List.getElem?_set_self (by rw [lfm_len]; exact hk)]
      unfold lfm
      rw [List.getElem?_map, List.getElem?_range hi]
      show _ = some (if k ∈ ks then _ else _)
      rw [if_neg h]
    · rw [List.getElem?_set_ne e]
      unfold lfm
      rw [List.getElem?_map, List.getElem?_map, List.getElem?_range hi]
      show some (if i ∈ k :: ks then _ else _) = some (if i ∈ ks then _ else _)
      have : (i ∈ k :: ks) = (i ∈ ks) := by rw [List.mem_cons]; simp [Ne.symm e]
      simp only [this]
  · rw [List.getElem?_eq_none (by rw [List.length_set, lfm_len]; omega), List.getElem?_eq_none (by rw [lfm_len]; omega)]
theorem qadd_at {Q : Nat → Bool} {n k : Nat} : qadd Q n k = true ↔ Q k = true ∨ k = n := by simp [qadd]
/-- the state inside of put -/
structure Pt (w0 w W : World) (b : Nat) (s : Sz) (n : Nat) (X : List (List Int)) (L : List Int) (l : Int) (Q : Nat → Bool) (cs : List (Int × Nat)) (F : List Nat) (P : List (Nat × Nat)) (ks : List Nat) : Prop where
  z : ∃ Q', Cz w0.heap.size W b s n X.length (inLs n (L ++ [l])) (lfm X L (L ++ [l]) ks) F P Q' cs ∧ ∀ k, Q' k = true ↔ Q k = true ∨ (k < X.length ∧ -l ∈ X.getD k [] ∧ k ∉ ks ∧ cnt (L ++ [l]) (X.getD k []) = 1)
  mo : Mo w (s.own b) W (s.own b)

theorem uPut_in (w0 : World) (b : Nat) (s : Sz) (n : Nat) (X : List (List Int)) (L : List Int) (Q : Nat → Bool) (cs : List (Int × Nat)) (l : Int) (w : World) (h : Cw w0 w b s n X L Q cs) (hf : fmd l = true) (hl : idx l < n) (hL : l ∉ L) :
    Calls Tryz.prog 113 #[.pointer (some ⟨b, 0, none⟩), .int .i64 l] w fun e w' => e = .returned (.tuple #[]) ∧ ∃ Q', Cw w0 w' b s n X (L ++ [l]) Q' cs ∧ newQ X L l Q Q' ∧ Mo w (s.own b) w' (s.own b) := by
  have HW : Hid (Cw w0 w b s n X L Q cs) := h
  have HB0 : Hid (Below w0.heap.size w0 w ∧ ∀ k, s.own b k → w0.heap.size ≤ k) := ⟨h.bel, fun k hk => (h.lt k hk).1⟩
  clear h
  go_enter Tryz.func113, Tryz.ntmps113
  go_wp2_with fail
  refine (uMeets_any w0 b s n X L Q cs l w HW.out).mono ?_
  rintro e w1 ⟨rfl, bel1⟩
  have HW1 : Hid (Cw w0 w1 b s n X L Q cs ∧ Mo w (s.own b) w1 (s.own b)) := ⟨HW.out.below bel1, Mo.below bel1⟩
  clear bel1 HW
  have hdt : decide (idx l < n) = true := decide_eq_true hl
  rw [hdt]
  go_wp2_with fail
  refine (uHolds_any w0 b s n X L Q cs l w1 HW1.out.1 hf hl).mono ?_
  rintro e w2 ⟨rfl, bel2⟩
  have hdf : decide (l ∈ L) = false := decide_eq_false hL
  have HW2 : Hid (Cw w0 w2 b s n X L Q cs ∧ Mo w (s.own b) w2 (s.own b)) := ⟨HW1.out.1.below bel2, HW1.out.2.trans (Mo.below bel2)⟩
  rw [hdf]
  clear bel2 HW1 hdt hdf
  obtain ⟨F, P, hz, hp, hP⟩ := HW2.out.1.z
  have hfit := HW2.out.1.fit
  have hn := hfit.hn
  have hr := fmd_range hf
  obtain ⟨i, hi⟩ : ∃ i : Nat, idx l = i := ⟨(idx l).toNat, by have := idx_range hf; omega⟩
  have hnl := idx_neg_lt hf hfit.ev hl
  obtain ⟨j, hj⟩ : ∃ j : Nat, idx (-l) = j := ⟨(idx (-l)).toNat, by have := idx_range (fmd_neg hf); omega⟩
  have hin : i < n := by omega
  have hjn : j < n := by omega
  have hFj : F[j]? = some (F[j]'(by rw [hp.len]; exact hjn)) := List.getElem?_eq_getElem _
  obtain ⟨p0, hp0⟩ : ∃ p0, F[j]? = some p0 := ⟨_, hFj⟩
  obtain ⟨hp1, ks0, hch, hpw, hks⟩ := hp.ch j p0 hp0
  have hlit : litAt (j : Int) = -l := by rw [← hj, litAt_idx (fmd_neg hf)]
  rw [hlit] at hks
  obtain ⟨gI, cI, eI, i1, i2, i3⟩ := row_some hz.i (by omega)
  obtain ⟨gF, cF, eF, f1, f2, f3⟩ := row_some hz.f (by omega)
  obtain ⟨gP, cP, eP, p1, p2, p3⟩ := row_some hz.p (by have := hp.pos; omega)
  have b1 := hz.c1
  have rI := hz.i
  rw [eI] at b1 rI
  have kI := row_cell rI (j := i) (x := .bool (decide (l ∈ L))) (by rw [List.getElem?_map, inLs_at hf hi hin]; rfl)
  have zI := row_fz rI i
  have HI : Hid (idx l = i) := hi
  have HJ : Hid (idx (-l) = j) := hj
  -- behind the first store
  obtain ⟨z1, m1⟩ := hz.setI eI hin true
  rw [inLs_set (L' := L ++ [l]) hn hf hi true (by simp) (fun x hx => by simp [hx])] at z1
  have hst : lfm X L (L ++ [l]) ks0 = lefts X L := lfm_start fun k hk hnk => by
    have hno : -l ∉ X.getD k [] := fun h2 => hnk ((hks k).2 h2)
    rw [cnt_put hL, if_neg hno]; rfl
  have HP1 : Hid (Pt w0 w (w2.setCell ⟨gI, i, none⟩ (.bool true)) b s n X L l Q cs F P ks0) := ⟨⟨Q, by rw [hst]; exact z1, fun k => ⟨.inl, fun h2 => h2.elim id fun ⟨_, h3, h4, _⟩ => absurd ((hks k).2 h3) h4⟩⟩, HW2.out.2.trans m1⟩
  have HPl : Hid (Pls X n F P ∧ P.length ≤ 2147483648 ∧ Fit X n ∧ Below w0.heap.size w0 w2) := ⟨hp, hP, hfit, HW2.out.1.bel⟩
  have HEP : Hid (s.P = .slice (some ⟨gP, 0, none⟩) P.length cP) := eP
  have HEF : Hid (s.F = .slice (some ⟨gF, 0, none⟩) n cF) := eF
  have HF0 : Hid (F[j]? = some p0) := hp0
  have HCH : Hid (Ch P p0 ks0 ∧ ks0.Pairwise (· > ·) ∧ ∀ k, k ∈ ks0 ↔ -l ∈ X.getD k []) := ⟨hch, hpw, hks⟩
  have hwl : IntKind.i64.wrap (-l) = -l := by rw [IntKind.wrap_i64]; omega
  have HL : Hid (l ∉ L ∧ fmd l = true) := ⟨hL, hf⟩
  clear hz z1 m1 hp hst hch hpw hks hlit rI hFj hp0 eI eF eP hnl hi hj hfit HW2 hl
  generalize decide (l ∈ L) = dl at *
  go_upto_region 1 with fail
  go_cut [] from 15 to 21 (fun wx => Pt w0 w wx b s n X L l Q cs F P ks0)
  case first =>
    go_region_law (go_simp; go_at_call 60; refine (index_any _ _).mono ?_; intro e w9 hh; rw [hh.1, hh.2, HI.out]; clear hh e w9; dsimp only)
    all_goals
      have HP2 : Hid (Pt w0 w (w2.setCell ⟨gI, i, none⟩ (.bool true)).drew b s n X L l Q cs F P ks0) := ⟨by obtain ⟨Q', h1, h2⟩ := HP1.out.z; exact ⟨Q', h1.kept fun _ _ => rfl, h2⟩, HP1.out.mo.trans (Mo.below (Below.refl _ _).drew)⟩
      go_wp2_with fail
      go_meet
      exact HP2.out
  case rest =>
  have HP2 : Hid (Pt w0 w wc b s n X L l Q cs F P ks0) := hcut
  clear hcut HP1 b1 kI zI
  generalize wc = w3 at *
  obtain ⟨Q3, hz3, -⟩ := HP2.out.z
  have b3 := hz3.c3
  have rF := hz3.f
  rw [HEF.out] at b3 rF
  have kF := row_cell rF (j := j) (x := .int .i32 (p0 : Int)) (by unfold i32s; rw [List.getElem?_map, List.getElem?_map, HF0.out]; rfl)
  clear hz3 rF
  go_upto_region 2 with fail
  go_cut [4] from 22 to 30 (fun p' wx => p' = .int .i32 (p0 : Int) ∧ Pt w0 w wx b s n X L l Q cs F P ks0)
  case first =>
    go_region_law (go_simp; go_at_call 60; refine (index_any _ _).mono ?_; intro e w9 hh; rw [hh.1, hh.2, HJ.out]; clear hh e w9; dsimp only)
    all_goals
      have HP3 : Hid (Pt w0 w w3.drew b s n X L l Q cs F P ks0) := ⟨by obtain ⟨Q', h1, h2⟩ := HP2.out.z; exact ⟨Q', h1.kept fun _ _ => rfl, h2⟩, HP2.out.mo.trans (Mo.below (Below.refl _ _).drew)⟩
      go_wp2_with fail
      go_meet
      exact ⟨rfl, HP3.out⟩
  case rest =>
  obtain ⟨rfl, hcut⟩ := hcut
  have HP3 : Hid (Pt w0 w wc b s n X L l Q cs F P ks0) := hcut
  clear hcut HP2 b3 kF
  generalize wc = w4 at *
  go_wp2
  go_loopg [4] p0 (fun g p' wr => ∃ ks, p' = .int .i32 ((g : Nat) : Int) ∧ Ch P g ks ∧ ks.Pairwise (· > ·) ∧ (∀ k ∈ ks, -l ∈ X.getD k []) ∧ g < P.length ∧ Pt w0 w wr b s n X L l Q cs F P ks)
  case atStart => exact ⟨ks0, rfl, HCH.out.1, HCH.out.2.1, fun k hk => (HCH.out.2.2 k).1 hk, hp1, HP3.out⟩
  case round =>
    obtain ⟨ks, rfl, hch, hpw, hks, hgP, hpt⟩ := hrel
    have HT : Hid (Pt w0 w wr b s n X L l Q cs F P ks) := hpt
    clear hpt
    by_cases hg0 : 0 < gk
    · obtain ⟨k, q, r, g1, g2, rfl, g4⟩ := hch.inv hg0
      obtain ⟨hkX, -⟩ := HPl.out.1.num gk k q hg0 g1
      have hkl : -l ∈ X.getD k [] := hks k (by simp)
      have hkr : k ∉ r := fun h2 => Nat.lt_irrefl _ ((List.pairwise_cons.1 hpw).1 k h2)
      obtain ⟨Qz, hz, hQz⟩ := HT.out.z
      have b4 := hz.c4
      have b2 := hz.c2
      have b5 := hz.c5
      have rP := hz.p
      rw [HEP.out] at b4 rP
      obtain ⟨k1, k2⟩ := twp_at g1
      have x1 := row_cell rP k1
      have x2 := row_cell rP k2
      obtain ⟨gE, cE, eE, e1, e2, e3⟩ := row_some hz.e (by omega)
      have rE := hz.e
      rw [eE] at b2 rE
      have x3 := row_cell rE (j := k) (x := .int .i32 (cnt L (X.getD k []) : Int)) (by unfold i32s; rw [List.getElem?_map, lfm_at hkX (by simp)]; rfl)
      have x4 := row_fz rE k
      obtain ⟨z1, m1⟩ := hz.setE eE hkX (cnt (L ++ [l]) (X.getD k []) : Int)
      rw [lfm_step hkX hkr] at z1
      have y4 := z1.c4
      have y2 := z1.c2
      have y5 := z1.c5
      rw [HEP.out] at y4
      rw [eE] at y2
      have rP2 := z1.p
      rw [HEP.out] at rP2
      have y6 := row_cell rP2 k2
      have hcp := cnt_put (c := X.getD k []) HL.out.1
      rw [if_pos hkl] at hcp
      have hpos := cnt_pos HL.out.1 hkl
      have hcl : cnt L (X.getD k []) ≤ 1073741824 := Nat.le_trans (cnt_le _ _) (HPl.out.2.2.1.len _ (getD_in hkX))
      have hX := HPl.out.2.2.1.num
      have y3 : (wr.setCell ⟨gE, k, none⟩ (.int .i32 (cnt (L ++ [l]) (X.getD k []) : Int))).cell? ⟨gE, k, none⟩ = some (.int .i32 (cnt (L ++ [l]) (X.getD k []) : Int)) := cell_set_same x3 _
      have HZ : Hid (Cz w0.heap.size (wr.setCell ⟨gE, k, none⟩ (.int .i32 (cnt (L ++ [l]) (X.getD k []) : Int))) b s n X.length (inLs n (L ++ [l])) (lfm X L (L ++ [l]) r) F P Qz cs ∧ Mo w (s.own b) (wr.setCell ⟨gE, k, none⟩ (.int .i32 (cnt (L ++ [l]) (X.getD k []) : Int))) (s.own b)) := ⟨z1, HT.out.mo.trans m1⟩
      have HQz : Hid (∀ j, Qz j = true ↔ Q j = true ∨ (j < X.length ∧ -l ∈ X.getD j [] ∧ j ∉ k :: r ∧ cnt (L ++ [l]) (X.getD j []) = 1)) := hQz
      have HR : Hid (Ch P q r ∧ r.Pairwise (· > ·) ∧ (∀ j ∈ r, -l ∈ X.getD j []) ∧ q < P.length) := ⟨g4, (List.pairwise_cons.1 hpw).2, fun j hj => hks j (List.mem_cons_of_mem _ hj), by omega⟩
      have HK : Hid (-l ∈ X.getD k [] ∧ k ∉ r ∧ k < X.length) := ⟨hkl, hkr, hkX⟩
      have HM : Hid (q < gk) := g2
      have HPP : Hid (P.length ≤ 2147483648) := HPl.out.2.1
      have hG1 := g1
      clear hz z1 m1 hQz rP rE rP2 k1 k2 hch hpw hks g1 g4 hkl hkr eE HT
      generalize hc' : cnt (L ++ [l]) (X.getD k []) = c' at *
      have HC : Hid (cnt (L ++ [l]) (X.getD k []) = c') := hc'
      generalize cnt L (X.getD k []) = c at *
      clear hc'
      obtain rfl : c = c' + 1 := by omega
      have hwc2 : IntKind.i32.wrap (c' : Int) = c' := by rw [wrap_i32']; omega
      clear hcp hpos
      have HG1 : Hid (P[gk]? = some (k, q)) := hG1
      clear hG1
      generalize hNX : X.length = N at *
      generalize hPn : P.length = Pn at *
      have HNX : Hid (X.length = N) := hNX
      have HPn : Hid (P.length = Pn) := hPn
      clear hNX hPn
      have g1' : gk * 2 + 1 < 4294967297 := by omega
      by_cases hone : c' = 1
      · have hb1 : ((c' : Int) == 1) = true := by simp; omega
        have HONE : Hid (c' = 1) := hone
        clear hone
        go_wp2_with fail
        refine (wAdd_any w0.heap.size s.W s.L N Qz k _ HZ.out.1.w (HK.out.2.2) (by omega)).mono ?_
        rintro e w5 ⟨rfl, hw5, hm5⟩
        obtain ⟨z5, m5⟩ := HZ.out.1.putW hw5 hm5
        have u4 := z5.c4
        have rP := z5.p
        rw [HEP.out] at u4 rP
        have HZ5 : Hid (Pt w0 w w5 b s n X L l Q cs F P r) := ⟨⟨_, by rw [HNX.out]; exact z5, fun j => by
          rw [qadd_at, HQz.out j, HNX.out]
          constructor
          · rintro ((a | ⟨a, b, c, d⟩) | a)
            · exact .inl a
            · exact .inr ⟨a, b, fun h2 => c (List.mem_cons_of_mem _ h2), d⟩
            · subst a; exact .inr ⟨HK.out.2.2, HK.out.1, HK.out.2.1, HC.out.trans HONE.out⟩
          · rintro (a | ⟨a, b, c, d⟩)
            · exact .inl (.inl a)
            · by_cases e : j = k
              · exact .inr e
              · exact .inl (.inr ⟨a, b, by rw [List.mem_cons]; exact fun h2 => h2.elim e c, d⟩)⟩, HZ.out.2.trans m5⟩
        rw [HPn.out] at rP
        have x5 := row_cell rP (twp_at HG1.out).2
        clear rP hw5 hm5 z5 m5 HZ HQz x1 x2 x3 x4 b4 b2 b5 y4 y2 y5 y6 y3
        go_wp2
        go_roundg q
        case measure => exact HM.out
        case rel => exact ⟨r, rfl, HR.out.1, HR.out.2.1, HR.out.2.2.1, HR.out.2.2.2, HZ5.out⟩
      · have hne1 : ((c' : Int) == 1) = false := by simp; omega
        have HZ5 : Hid (Pt w0 w (wr.setCell ⟨gE, k, none⟩ (.int .i32 (c' : Int))) b s n X L l Q cs F P r) := ⟨⟨_, by rw [HNX.out]; exact HZ.out.1, fun j => by
          rw [HQz.out j, HNX.out]
          constructor
          · rintro (a | ⟨a, b, c, d⟩)
            · exact .inl a
            · exact .inr ⟨a, b, fun h2 => c (List.mem_cons_of_mem _ h2), d⟩
          · rintro (a | ⟨a, b, c, d⟩)
            · exact .inl a
            · by_cases e : j = k
              · subst e; rw [HC.out] at d; exact absurd d hone
              · exact .inr ⟨a, b, by rw [List.mem_cons]; exact fun h2 => h2.elim e c, d⟩⟩, HZ.out.2⟩
        clear HZ HQz
        go_wp2
        go_roundg q
        case measure => exact HM.out
        case rel => exact ⟨r, rfl, HR.out.1, HR.out.2.1, HR.out.2.2.1, HR.out.2.2.2, HZ5.out⟩
    · obtain rfl : gk = 0 := by omega
      have hk0 := hch.zero
      subst hk0
      have HF : Hid (∃ Q', Cw w0 wr b s n X (L ++ [l]) Q' cs ∧ newQ X L l Q Q' ∧ Mo w (s.own b) wr (s.own b)) := by
        obtain ⟨Q', z, hq⟩ := HT.out.z
        rw [lfm_end] at z
        refine ⟨Q', ⟨Mo.bel HB0.out.1 HB0.out.2 HT.out.mo, HPl.out.2.2.1, F, P, z, HPl.out.1, HPl.out.2.1⟩, fun k => (hq k).trans ?_, HT.out.mo⟩
        constructor
        · rintro (a | ⟨a, b, c, d⟩)
          · exact .inl a
          · exact .inr ⟨a, b, HL.out.1, d⟩
        · rintro (a | ⟨a, b, c, d⟩)
          · exact .inl a
          · exact .inr ⟨a, b, by simp, d⟩
      clear hch hks hgP
      go_wp2
      go_end0
      exact ⟨rfl, HF.out⟩
/-- put, of any literal -/
theorem uPut_any (w0 : World) (b : Nat) (s : Sz) (n : Nat) (X : List (List Int)) (L : List Int) (Q : Nat → Bool) (cs : List (Int × Nat)) (l : Int) (w : World) (h : Cw w0 w b s n X L Q cs) (hf : fmd l = true) :
    Calls Tryz.prog 113 #[.pointer (some ⟨b, 0, none⟩), .int .i64 l] w fun e w' => e = .returned (.tuple #[]) ∧ ∃ Q', Cw w0 w' b s n X (L ++ [l]) Q' cs ∧ newQ X L l Q Q' ∧ Mo w (s.own b) w' (s.own b) := by
  by_cases hl : idx l < n
  · by_cases hL : l ∈ L
    · have HW : Hid (Cw w0 w b s n X L Q cs) := h
      clear h
      go_enter Tryz.func113, Tryz.ntmps113
      go_wp2_with fail
      refine (uMeets_any w0 b s n X L Q cs l w HW.out).mono ?_
      rintro e w1 ⟨rfl, bel1⟩
      have HW1 : Hid (Cw w0 w1 b s n X L Q cs ∧ Mo w (s.own b) w1 (s.own b)) := ⟨HW.out.below bel1, Mo.below bel1⟩
      clear bel1 HW
      have hdt : decide (idx l < n) = true := decide_eq_true hl
      rw [hdt]
      go_wp2_with fail
      refine (uHolds_any w0 b s n X L Q cs l w1 HW1.out.1 hf hl).mono ?_
      rintro e w2 ⟨rfl, bel2⟩
      have hdf : decide (l ∈ L) = true := decide_eq_true hL
      have HF : Hid (∃ Q', Cw w0 w2 b s n X (L ++ [l]) Q' cs ∧ newQ X L l Q Q' ∧ Mo w (s.own b) w2 (s.own b)) := ⟨Q, (HW1.out.1.below bel2).congr (fun x _ _ => ⟨fun h => List.mem_append.2 (.inl h), fun h => (List.mem_append.1 h).elim id fun h2 => (by simpa using h2 : x = l) ▸ hL⟩), fun k => ⟨.inl, fun h => h.elim id fun h2 => absurd hL h2.2.2.1⟩, HW1.out.2.trans (Mo.below bel2)⟩
      rw [hdf]
      clear bel2 HW1 hdt hdf
      go_wp2
      refine bodyPost_ret (results_none rfl _ _ _) rfl ?_
      exact ⟨rfl, HF.out⟩
    · exact uPut_in w0 b s n X L Q cs l w h hf hl hL
  · have HW : Hid (Cw w0 w b s n X L Q cs) := h
    clear h
    go_enter Tryz.func113, Tryz.ntmps113
    go_wp2_with fail
    refine (uMeets_any w0 b s n X L Q cs l w HW.out).mono ?_
    rintro e w1 ⟨rfl, bel1⟩
    have HF : Hid (∃ Q', Cw w0 w1 b s n X (L ++ [l]) Q' cs ∧ newQ X L l Q Q' ∧ Mo w (s.own b) w1 (s.own b)) := by
      refine ⟨Q, (HW.out.below bel1).congr (fun x _ hx => ⟨fun h => List.mem_append.2 (.inl h), fun h => (List.mem_append.1 h).elim id fun h2 => ?_⟩), fun k => ⟨.inl, fun h => h.elim id fun h2 => ?_⟩, Mo.below bel1⟩
      · have : x = l := by simpa using h2
        rw [this] at hx; omega
      · have h3 := HW.out.fit.lit _ (getD_in h2.1) _ h2.2.1
        have h4 := idx_neg_lt h3.1 HW.out.fit.ev h3.2
        rw [Int.neg_neg] at h4
        omega
    have hdt : decide (idx l < n) = false := decide_eq_false (by omega)
    rw [hdt]
    clear bel1 HW hdt
    go_wp2
    refine bodyPost_ret (results_none rfl _ _ _) rfl ?_
    exact ⟨rfl, HF.out⟩
end Go.Proofs.YtjajafeaengnjaaGreatDoor
