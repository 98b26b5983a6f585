/-
  unit: what waits: none, add.
  KEEP: set on app at below new trans refl start ap kept rd rds mono lt add none own nil
-/
import Derived.Test.YtjajafeaengnjaaGreatDoorKUnF
set_option linter.unusedSimpArgs false
set_option linter.unusedVariables false
namespace Go.Proofs.YtjajafeaengnjaaGreatDoor
open Go Go.RowKit

/-- one level of what waits, as it is met -/
theorem Wt.met {B : Nat} {W : World} {v : Value} {Ls : List Lev} (h : Wt B W v Ls) {j : Nat} (hj : j < Ls.length) (hp : 0 < (Ls[j]).2.length) : ∃ g0 c0 g c, v = .slice (some ⟨g0, 0, none⟩) Ls.length c0 ∧ Ls.length ≤ c0 ∧ c0 ≤ maxLen ∧ W.cell? ⟨g0, j, none⟩ = some (.slice (some ⟨g, 0, none⟩) (Ls[j]).2.length c) ∧
    Ls[j]? = some (.slice (some ⟨g, 0, none⟩) (Ls[j]).2.length c, (Ls[j]).2) ∧ (Ls[j]).2.length ≤ c ∧ c ≤ maxLen ∧ (∀ (i x : Nat), (Ls[j]).2[i]? = some x → W.cell? ⟨g, i, none⟩ = some (.int .u64 (x : Int))) ∧ (∀ i, W.frozen? ⟨g, i, none⟩ = false) ∧ wown v (Ls.map Prod.fst) g := by
  obtain ⟨g0, c0, e0, h1, h2, h3⟩ := row_some h.row (by omega)
  have hr := h.row
  rw [e0] at hr
  have hl := h.lv _ (List.getElem_mem hj)
  obtain ⟨g, c, e, k1, k2, k3⟩ := row_some hl hp
  have hl2 := hl
  rw [e] at hl2
  refine ⟨g0, c0, g, c, e0, h1, h2, ?_, ?_, k1, k2, fun i x hx => row_cell hl2 (by unfold u64s; rw [List.getElem?_map, hx]; rfl), fun i => row_fz hl2 i, .inr ⟨_, List.mem_map_of_mem (List.getElem_mem hj), by rw [e]; rfl⟩⟩
  · exact row_cell hr (by rw [List.getElem?_map, List.getElem?_eq_getElem hj, ← e]; rfl)
  · rw [List.getElem?_eq_getElem hj, ← e]

/-- is there none? -/
noncomputable def emp (Q : Nat → Bool) : Bool := @decide (∀ k, Q k = false) (Classical.propDecidable _)
theorem emp_iff (Q : Nat → Bool) : emp Q = true ↔ ∀ k, Q k = false := @decide_eq_true_iff _ (Classical.propDecidable _)
theorem emp_no {Q : Nat → Bool} {x : Nat} (h : x = 0 ↔ emp Q = true) (h0 : x ≠ 0) : emp Q = false := by
  cases e : emp Q
  · rfl
  · exact absurd (h.2 e) h0
theorem emp_yes {Q : Nat → Bool} {x : Nat} (h : x = 0 ↔ emp Q = true) (h0 : x = 0) : emp Q = true := h.1 h0
theorem wNone_any (B : Nat) (v : Value) (fs : List Value) (N : Nat) (Q : Nat → Bool) (w : World) (h : Wq B w v fs N Q) :
    Calls Tryz.prog 131 #[v] w fun e w' => e = .returned (.bool (emp Q)) ∧ w' = w := by
  obtain ⟨Ls, rfl, hw, hl⟩ := h
  have hpos : 0 < Ls.length := by have := hl.pos; simpa using this
  have hfew : Ls.length ≤ 6 := by have := hl.few; simpa using this
  have hj : Ls.length - 1 < Ls.length := by omega
  have hlast : (Ls.map Prod.snd)[(Ls.map Prod.snd).length - 1]? = some (Ls[Ls.length - 1]).2 := by
    rw [List.length_map, List.getElem?_map, List.getElem?_eq_getElem hj]; rfl
  have hp : 0 < (Ls[Ls.length - 1]).2.length := (hl.lv _ _ hlast).pos
  obtain ⟨g0, c0, g, c, rfl, a1, a2, a3, a4, a5, a6, a7, a8, hown⟩ := hw.met hj hp
  have hx := a7 0 _ (List.getElem?_eq_getElem hp)
  have HN : Hid ((Ls[Ls.length - 1]).2[0] = 0 ↔ emp Q = true) := by
    show _ ↔ _
    rw [emp_iff]
    exact hl.none hlast (List.getElem?_eq_getElem hp)
  generalize (Ls[Ls.length - 1]).2[0] = x at *
  generalize hln : (Ls[Ls.length - 1]).2.length = m at *
  clear a4 a7 a8 hlast hw hl hln
  clear hown
  generalize Ls.length = n at *
  obtain ⟨K, rfl⟩ : ∃ K, n = K + 1 := ⟨n - 1, by omega⟩
  rw [Nat.add_sub_cancel] at a3
  by_cases h0 : x = 0
  · have HE : Hid (emp Q = true) := HN.out.1 h0
    subst h0
    clear HN
    go_enter Tryz.func131, Tryz.ntmps131
    go_wp2
    go_ret
    exact ⟨ret_bool HE.out.symm, rfl⟩
  · have h1 : ((x : Int) == 0) = false := by simpa using h0
    go_enter Tryz.func131, Tryz.ntmps131
    go_wp2
    go_ret
    exact ⟨ret_bool (emp_no HN.out h0).symm, rfl⟩

theorem tdiv64 (n : Nat) : ((n : Int).tdiv 64) = ((n / 64 : Nat) : Int) := by rw [Int.tdiv_eq_ediv_of_nonneg (by omega)]; omega
theorem tmod64 (n : Nat) : ((n : Int).tmod 64) = ((n % 64 : Nat) : Int) := by rw [Int.tmod_eq_emod_of_nonneg (by omega)]; omega
theorem shl64 (m : Nat) : IntKind.u64.wrap (2 ^ ((m : Int) % 64).toNat) = ((2 ^ (m % 64) : Nat) : Int) := by
  have hm64 : m % 64 < 64 := Nat.mod_lt _ (by decide)
  have hpow : 2 ^ (m % 64) < 18446744073709551616 := Nat.pow_lt_pow_right (by decide : 1 < 2) hm64
  have e : ((m : Int) % 64).toNat = m % 64 := by omega
  rw [e, IntKind.wrap_u64]
  have e2 : ((2 : Int) ^ (m % 64)) = ((2 ^ (m % 64) : Nat) : Int) := by simp
  rw [e2]
  generalize 2 ^ (m % 64) = p at *
  omega
theorem mix_stop {N : Nat} {Q : Nat → Bool} {n j : Nat} {ws0 ws : List (List Nat)} (h : Lvs N Q ws0) (hl : ws.length = ws0.length) (hn : n < N) (hm : Mix N Q (qadd Q n) (j + 1) ws) (hs : ∃ k, Q k = true ∧ k / 64 ^ (j + 1) = n / 64 ^ (j + 1)) : Lvs N (qadd Q n) ws := by
  refine ⟨by rw [hl]; exact h.pos, by rw [hl]; exact h.few, by rw [hl]; exact h.top, fun k hk => ?_, fun i w hi => ?_⟩
  · simp only [qadd, Bool.or_eq_true, decide_eq_true_eq] at hk
    rcases hk with a | a
    · exact h.sub k a
    · omega
  · by_cases hij : i < j + 1
    · exact (hm i w hi).1 hij
    · exact ((hm i w hi).2 (by omega)).add_stop hs (by omega)
theorem mix_end {N : Nat} {Q : Nat → Bool} {n j : Nat} {ws0 ws : List (List Nat)} (h : Lvs N Q ws0) (hl : ws.length = ws0.length) (hn : n < N) (hm : Mix N Q (qadd Q n) j ws) (hj : j = ws.length) : Lvs N (qadd Q n) ws := by
  refine ⟨by rw [hl]; exact h.pos, by rw [hl]; exact h.few, by rw [hl]; exact h.top, fun k hk => ?_, fun i w hi => ?_⟩
  · simp only [qadd, Bool.or_eq_true, decide_eq_true_eq] at hk
    rcases hk with a | a
    · exact h.sub k a
    · omega
  · exact (hm i w hi).1 (by rw [hj]; exact (List.getElem?_eq_some_iff.1 hi).1)
theorem Wt.addAt {B : Nat} {W : World} {v : Value} {L2 : List Lev} {N : Nat} {Q : Nat → Bool} {j n : Nat} (h : Wt B W v L2) (hm : Mix N Q (qadd Q n) j (L2.map Prod.snd)) (hj : j < L2.length) (hn : n < N) :
    ∃ g0 c0 g c len x, v = .slice (some ⟨g0, 0, none⟩) L2.length c0 ∧ W.cell? ⟨g0, j, none⟩ = some (.slice (some ⟨g, 0, none⟩) len c) ∧ n / 64 ^ j / 64 < len ∧ len ≤ c ∧ c ≤ maxLen ∧ c0 ≤ maxLen ∧ W.cell? ⟨g, n / 64 ^ j / 64, none⟩ = some (.int .u64 ((x : Nat) : Int)) ∧ W.frozen? ⟨g, n / 64 ^ j / 64, none⟩ = false ∧ x < 18446744073709551616 ∧
      (x ≠ 0 ↔ ∃ k, Q k = true ∧ k / 64 ^ (j + 1) = n / 64 ^ (j + 1)) ∧ wown v (L2.map Prod.fst) g ∧
      ∃ L3 : List Lev, L3.map Prod.fst = L2.map Prod.fst ∧ Wt B (W.setCell ⟨g, n / 64 ^ j / 64, none⟩ (.int .u64 ((x ||| 2 ^ (n / 64 ^ j % 64) : Nat) : Int))) v L3 ∧ Mix N Q (qadd Q n) (j + 1) (L3.map Prod.snd) := by
  have hsn : (L2.map Prod.snd)[j]? = some (L2[j]).2 := by rw [List.getElem?_map, List.getElem?_eq_getElem hj]; rfl
  have hlw : Lw N Q j (L2[j]).2 := (hm j _ hsn).2 (Nat.le_refl _)
  obtain ⟨g0, c0, g, c, e9, a1, a2, a3, a4, a5, a6, a7, a8, a9⟩ := h.met hj hlw.pos
  have hroom : n / 64 ^ (j + 1) < (L2[j]).2.length := hlw.room n hn
  have hx := List.getElem?_eq_getElem hroom
  have hnz := hlw.nz hx
  have hadd := hlw.add hx
  have hlt := hlw.lt _ _ hx
  have hcell := a7 _ _ hx
  generalize (L2[j]).2[n / 64 ^ (j + 1)] = x at *
  refine ⟨g0, c0, g, c, (L2[j]).2.length, x, e9, a3, by rw [← div64]; exact hroom, a5, a6, a2, by rw [← div64]; exact hcell, a8 _, hlt, hnz, a9, L2.set j (.slice (some ⟨g, 0, none⟩) (L2[j]).2.length c, (L2[j]).2.set (n / 64 ^ (j + 1)) (x ||| 2 ^ (n / 64 ^ j % 64))), ?_, ?_, ?_⟩
  · rw [List.map_set]
    apply List.ext_getElem?
    intro q
    by_cases e : j = q
    · subst e
      rw [List.getElem?_set_self (by simpa using hj), List.getElem?_map, a4]; rfl
    · rw [List.getElem?_set_ne e]
  · rw [← div64]
    exact h.set a4 hroom _
  · rw [List.map_set]
    exact hm.step (by simpa using hj) hadd
theorem wAdd_any (B : Nat) (v : Value) (fs : List Value) (N : Nat) (Q : Nat → Bool) (n : Nat) (w : World) (h : Wq B w v fs N Q) (hn : n < N) (hN : N ≤ 2147483648) :
    Calls Tryz.prog 130 #[v, .int .i64 n] w fun e w' => e = .returned (.tuple #[]) ∧ Wq B w' v fs N (qadd Q n) ∧ Mo w (wown v fs) w' (wown v fs) := by
  obtain ⟨Ls, hfs, hw, hl⟩ := h
  have hpos : 0 < Ls.length := by have := hl.pos; simpa using this
  have hfew : Ls.length ≤ 6 := by have := hl.few; simpa using this
  obtain ⟨g0, c0, e0, k1, k2, -⟩ := row_some hw.row hpos
  generalize hK : Ls.length = K at *
  have HL : Hid (Lvs N Q (Ls.map Prod.snd)) := hl
  have HW : Hid (Wt B w v Ls) := hw
  have HF : Hid (Ls.map Prod.fst = fs) := hfs
  have HK : Hid (Ls.length = K) := hK
  have HV : Hid (v = .slice (some ⟨g0, 0, none⟩) K c0) := e0
  clear hl hw hfs hK
  subst e0
  go_enter Tryz.func130, Tryz.ntmps130
  go_wp2
  go_loopg [1, 9] K (fun g n' j' wr => ∃ (j : Nat) (L2 : List Lev), j + g = K ∧ n' = .int .i64 ((n / 64 ^ j : Nat) : Int) ∧ j' = .int .i64 j ∧ L2.map Prod.fst = fs ∧ Wt B wr (.slice (some ⟨g0, 0, none⟩) K c0) L2 ∧ Mix N Q (qadd Q n) j (L2.map Prod.snd) ∧ Mo w (wown (.slice (some ⟨g0, 0, none⟩) K c0) fs) wr (wown (.slice (some ⟨g0, 0, none⟩) K c0) fs))
  case atStart => exact ⟨0, Ls, by omega, by simp, rfl, HF.out, HW.out, Mix.start HL.out, Mo.refl _ _⟩
  case round =>
    obtain ⟨j, L2, hj, rfl, rfl, h3, h4, h5, h6⟩ := hrel
    have HJ : Hid (j + gk = K) := hj
    have HN : Hid (n < N ∧ N ≤ 2147483648) := ⟨hn, hN⟩
    have h7 : L2.length = K := by have h8 := congrArg List.length (h3.trans HF.out.symm); have h9 := HK.out; rw [List.length_map, List.length_map] at h8; omega
    by_cases hlt : j < K
    · obtain ⟨g0', c0', g, c, len, x, e9, a1, a2, a3, a4, a5, a6, a7, a8, a9, a10, L3, b1, b2, b3⟩ := h4.addAt h5 (by omega : j < L2.length) hn
      rw [h7] at e9
      injection e9 with e91 _ e93
      injection e91 with e91; injection e91 with e91
      subst e91; subst e93
      have HS : Hid (L3.map Prod.fst = fs ∧ Wt B (wr.setCell ⟨g, n / 64 ^ j / 64, none⟩ (.int .u64 ((x ||| 2 ^ (n / 64 ^ j % 64) : Nat) : Int))) (.slice (some ⟨g0, 0, none⟩) K c0) L3 ∧ Mix N Q (qadd Q n) (j + 1) (L3.map Prod.snd) ∧ Mo w (wown (.slice (some ⟨g0, 0, none⟩) K c0) fs) (wr.setCell ⟨g, n / 64 ^ j / 64, none⟩ (.int .u64 ((x ||| 2 ^ (n / 64 ^ j % 64) : Nat) : Int))) (wown (.slice (some ⟨g0, 0, none⟩) K c0) fs)) := ⟨b1.trans h3, b2, b3, h6.trans (Mo.set _ _ _ _ (by rw [← h3]; exact a10))⟩
      have HX : Hid (x ≠ 0 ↔ ∃ k, Q k = true ∧ k / 64 ^ (j + 1) = n / 64 ^ (j + 1)) := a9
      have HD : Hid (n / 64 ^ (j + 1) = n / 64 ^ j / 64) := div64 n j
      have hnj : n / 64 ^ j ≤ 2147483648 := Nat.le_trans (Nat.div_le_self _ _) (by omega)
      clear h3 h4 h5 h6 b1 b2 b3 a9 a10 hj h7
      generalize n / 64 ^ j = m at *
      have t1 := tdiv64 m
      have t2 := tmod64 m
      have hm64 : m % 64 < 64 := Nat.mod_lt _ (by decide)
      have hpow : 2 ^ (m % 64) < 18446744073709551616 := Nat.pow_lt_pow_right (by decide : 1 < 2) hm64
      have hor := bits_or_u64_nat x (2 ^ (m % 64)) a8 hpow
      have hsh := shl64 m
      generalize hmd : m / 64 = i at *
      have hwi : IntKind.i64.wrap (i : Int) = i := by rw [IntKind.wrap_i64]; omega
      generalize hpp : 2 ^ (m % 64) = pw at *
      by_cases h0 : x = 0
      · have HC : Hid (¬ ∃ k, Q k = true ∧ k / 64 ^ (j + 1) = n / 64 ^ (j + 1)) := fun h => HX.out.2 h h0
        subst h0
        have hor0 : bits BinOp.or .u64 0 (pw : Int) = (pw : Int) := by simpa using hor
        rw [Nat.zero_or] at HS
        clear hor
        go_upto_region 4 with fail
        go_region_law (fail)
        all_goals
          have HS2 : Hid (Wt B (wr.setCell ⟨g, i, none⟩ (.int .u64 (pw : Int))).drew (.slice (some ⟨g0, 0, none⟩) K c0) L3 ∧ Mo w (wown (.slice (some ⟨g0, 0, none⟩) K c0) fs) (wr.setCell ⟨g, i, none⟩ (.int .u64 (pw : Int))).drew (wown (.slice (some ⟨g0, 0, none⟩) K c0) fs)) := ⟨HS.out.2.1.kept fun _ _ => rfl, HS.out.2.2.2.trans (Mo.below (Below.refl _ _).drew)⟩
          generalize (wr.setCell ⟨g, i, none⟩ (.int .u64 (pw : Int))).drew = w2 at *
          go_wp2
          go_roundg (gk - 1)
          case measure => have := HJ.out; omega
          case rel => exact ⟨j + 1, L3, by have := HJ.out; omega, by rw [HD.out], by go_num, HS.out.1, HS2.out.1, HS.out.2.2.1, HS2.out.2⟩
      · have HC : Hid (∃ k, Q k = true ∧ k / 64 ^ (j + 1) = n / 64 ^ (j + 1)) := HX.out.1 h0
        have hx0 : ((x : Int) == 0) = false := by simpa using h0
        have hx1 : ((x : Int) != 0) = true := by simpa using h0
        go_upto_region 4 with fail
        go_region_law (fail)
        all_goals
          have HS2 : Hid (Wt B (wr.setCell ⟨g, i, none⟩ (.int .u64 ((x ||| pw : Nat) : Int))).drew (.slice (some ⟨g0, 0, none⟩) K c0) L3 ∧ Mo w (wown (.slice (some ⟨g0, 0, none⟩) K c0) fs) (wr.setCell ⟨g, i, none⟩ (.int .u64 ((x ||| pw : Nat) : Int))).drew (wown (.slice (some ⟨g0, 0, none⟩) K c0) fs)) := ⟨HS.out.2.1.kept fun _ _ => rfl, HS.out.2.2.2.trans (Mo.below (Below.refl _ _).drew)⟩
          have hor2 : ((x ||| pw : Nat) : Int) = ((x ||| pw : Nat) : Int) := rfl
          generalize (wr.setCell ⟨g, i, none⟩ (.int .u64 ((x ||| pw : Nat) : Int))).drew = w2 at *
          go_wp2
          refine bodyPost_ret (results_none rfl _ _ _) rfl ?_
          exact ⟨rfl, ⟨L3, HS.out.1, HS2.out.1, mix_stop HL.out (by have h1 := congrArg List.length (HS.out.1.trans HF.out.symm); simpa using h1) HN.out.1 HS.out.2.2.1 HC.out⟩, HS2.out.2⟩
    · obtain rfl : j = K := by have := HJ.out; omega
      have HS : Hid (Wq B wr (.slice (some ⟨g0, 0, none⟩) j c0) fs N (qadd Q n) ∧ Mo w (wown (.slice (some ⟨g0, 0, none⟩) j c0) fs) wr (wown (.slice (some ⟨g0, 0, none⟩) j c0) fs)) := ⟨⟨L2, h3, h4, mix_end HL.out (by have h1 := congrArg List.length (h3.trans HF.out.symm); simpa using h1) HN.out.1 h5 (by rw [List.length_map]; omega)⟩, h6⟩
      clear h3 h4 h5 h6
      go_wp2
      go_end0
      exact ⟨rfl, HS.out.1, HS.out.2⟩
end Go.Proofs.YtjajafeaengnjaaGreatDoor
