/-
  The statement's spans, walked.
  KEEP: putObj alloc same block size os tape output mono lt own new keep conf rest clr below grown step no yes done rd
-/
import Derived.Test.YthcbpdnaocpleabPcSp
import Derived.Test.YthcbpdnaocpleabPcS
import Derived.Test.YthcbpdnaocpleabLists
import Derived.Maps.AppendAt
import Derived.Deep.LoopGhost
set_option linter.unusedSimpArgs false
set_option linter.unusedVariables false
namespace Go.Proofs.Ythcbpdnaocpleab
open Go Go.RowKit

/-- append of ints, under a name of its own (its run is handed in as a fact) -/
def appInt (args : Array Value) : Sem Value := Builtin.append_ #[32, 32] 32 args
theorem append_int (args : Array Value) : Builtin.append_ #[32, 32] 32 args = appInt args := rfl
attribute [local go_sem ↓] append_int
theorem own_form13 {base : Nat} {W : World} {v : Value} {zs : List Int} (h : Own base W v zs) : ∃ a c, v = .slice a zs.length c := by
  rcases h.2 with ⟨rfl, h0⟩ | ⟨g, cap, cur, rfl, _⟩
  · exact ⟨none, 0, by rw [h0]⟩
  · exact ⟨_, cap, rfl⟩
theorem int_run {w6 : World} {base : Nat} {K : Int} {v : Value} {zs : List Int} (h : Own base w6 v zs) (hb : base ≤ w6.heap.size) (hL : zs.length ≤ 1099511627776) :
    ∃ a' c' w7, (appInt #[v, .slice (some ⟨w6.heap.size, 0, none⟩) 1 1]).run Try.prog (w6.alloc (.cells #[.int .i64 K] 3)) = .ok (.slice a' (zs.length + 1) c') w7 ∧
      Hid (Own base w7 (.slice a' (zs.length + 1) c') (zs ++ [K]) ∧ ∀ w, Below base w w6 → w.heap.size = base → Below base w w7 ∧ base ≤ w7.heap.size) := by
  have hb2 := below_new w6 (.cells #[.int .i64 K] 3)
  cases hi : Try.prog.info? 3 with
  | none => have := Try.info3; rw [hi] at this; simp at this
  | some i =>
    have hI := Try.info3
    rw [hi] at hI
    simp only [Option.map_some, Option.some.injEq, Prod.mk.injEq] at hI
    have h' : (w6.alloc (.cells #[.int .i64 K] 3)).ownsRow base 3 1 v zs.length (zs.map (Value.int .i64)) := Own.below h hb2
    obtain ⟨v', w', h1, h2, h3, _, h4⟩ := run_append_own_at (P := Try.prog) (w6.alloc (.cells #[.int .i64 K] 3)) base 32 32 3 i (.int .i64 0) 1 8 Try.underlying32 hi hI.1 hI.2.1 hI.2.2 rfl (by omega) v zs.length (zs.map (Value.int .i64)) h' ⟨w6.heap.size, 0, none⟩ 1 1 [.int .i64 K] rfl
      (fun j u hu => by
        have e : (⟨w6.heap.size, 0, none⟩ : Addr).add j = ⟨w6.heap.size, j, none⟩ := by unfold Addr.add; split <;> simp_all
        rw [e]
        exact cell_at (heap_new w6 _) (by simpa using hu))
      (by intro u hu; simp at hu; rw [hu]; rfl) (by unfold maxLen; omega) (by omega) (by have := hb2.size; omega)
    have ho : Own base w' v' (zs ++ [K]) := by
      show w'.ownsRow base 3 1 v' (zs ++ [K]).length ((zs ++ [K]).map (Value.int .i64))
      rw [List.length_append, List.map_append]
      exact h2
    obtain ⟨a', c', hf⟩ := own_form13 ho
    rw [List.length_append] at hf
    have hf' : v' = .slice a' (zs.length + 1) c' := hf
    subst hf'
    refine ⟨a', c', w', h1, ho, fun w hw hs => ?_⟩
    have h6 : Below base w (w6.alloc (.cells #[.int .i64 K] 3)) := hw.next hb2 (by omega)
    exact ⟨h6.grown h3 (by have := h6.size; omega) (fun q e => (World.ownsRow.lt h' q e).1), by have := h3.size; have := hb2.size; omega⟩

/-- Luby's first numbers, at least n of them -/
def SpS (n : Nat) (w w' : World) (v : Value) : Prop := ∃ N, n ≤ N ∧ N ≤ 65535 ∧ Own w.heap.size w' v (lubs N) ∧ Below w.heap.size w w'

set_option maxRecDepth 100000 in
set_option maxHeartbeats 3200000 in
theorem spans_any (n : Nat) (w : World) (hn : n ≤ 65535) :
    Calls Try.prog 10 #[.int .i64 n] w fun e w' => ∃ v, e = .returned v ∧ SpS n w w' v := by
  have H0 : Hid (Own w.heap.size (w.alloc (.cells #[.int .i64 1] 3)) (.slice (some ⟨w.heap.size, 0, none⟩) 1 1) (lubs 1) ∧ Below w.heap.size w (w.alloc (.cells #[.int .i64 1] 3))) := by
    have e : lubs 1 = [1] := by
      have := lub_last 0
      simp [lubs] at this ⊢
      exact_mod_cast this
    rw [e]
    exact ⟨⟨rfl, .inr ⟨w.heap.size, 1, #[.int .i64 1], rfl, Nat.le_refl _, heap_new w _, Nat.le_refl _, by unfold maxLen; omega, rfl, rfl⟩⟩, below_new _ _⟩
  go_enter Try.func10, Try.ntmps10
  go_wp2
  generalize w.alloc (.cells #[.int .i64 1] 3) = W0 at *
  go_loopg [3, 4] 15 (fun gk l k wr => ∃ (m : Nat) (v : Value), m + 1 + gk = 16 ∧ v = l ∧ k = .int .i64 ((2 ^ m : Nat) : Int) ∧ Hid (Own w.heap.size wr v (lubs (2 ^ (m + 1) - 1)) ∧ Below w.heap.size w wr))
  case atStart => exact ⟨0, _, by omega, rfl, rfl, H0⟩
  case round =>
    obtain ⟨m, v, hm, hv, rfl, HO⟩ := hrel
    subst hv
    have HM : Hid (m + 1 + gk = 16) := hm
    obtain ⟨gm, hgm⟩ : ∃ gm, gm = gk := ⟨_, rfl⟩
    have HGM : Hid (gm = gk) := hgm
    clear hgm
    obtain ⟨av, cv, hv⟩ := own_form13 HO.out.1
    rw [lubs_len] at hv
    have hp : 2 ^ m ≤ 2 ^ 15 := Nat.pow_le_pow_right (by omega) (by omega)
    have hp2 : 2 ^ (m + 1) = 2 * 2 ^ m := by rw [Nat.pow_succ]; omega
    have hp1 := Nat.one_le_two_pow (n := m)
    have h15 : (2 : Nat) ^ 15 = 32768 := by decide
    obtain ⟨S, hS⟩ : ∃ S, S = 2 ^ (m + 1) - 1 := ⟨_, rfl⟩
    have HS : Hid (S = 2 ^ (m + 1) - 1) := hS
    have HP : Hid (2 ^ (m + 1) = 2 * 2 ^ m) := hp2
    have hSb : S ≤ 65535 := by omega
    rw [← hS] at hv HO
    have hS2 : S = 2 * 2 ^ m - 1 := by omega
    generalize h2m : 2 ^ m = E at *
    have H2M : Hid (2 ^ m = E) := h2m
    have HSE : Hid (S = 2 * E - 1) := hS2
    clear hS hp2 hm h2m hS2
    subst hv
    by_cases hlt : S < n
    · have HG0 : Hid (0 < gm) := by
        show 0 < gm
        rcases Nat.eq_zero_or_pos gm with h0 | h0
        · have e1 := HM.out
          have e2 := HGM.out
          have e3 : m + 1 = 16 := by omega
          have e4 := HS.out
          rw [e3] at e4
          omega
        · exact h0
      go_wp2
      go_loopg [3, 6] S (fun gi l i wi => ∃ (j : Nat) (u : Value), j + gi = S ∧ u = l ∧ i = .int .i64 j ∧ Hid (Own w.heap.size wi u (lubs (S + j)) ∧ Below w.heap.size w wi))
      case atStart => exact ⟨0, _, by omega, rfl, rfl, HO⟩
      case round =>
        obtain ⟨j, u, hj, hu, rfl, HI⟩ := hrel
        subst hu
        have HJ : Hid (j + gk = S) := hj
        obtain ⟨au, cu, hu⟩ := own_form13 HI.out.1
        rw [lubs_len] at hu
        by_cases hjl : j < S
        · obtain ⟨z, hz⟩ : ∃ z, z = (lubs (S + j)).getD j 0 := ⟨_, rfl⟩
          have hrd := HI.out.1.rd (by rw [lubs_len]; omega)
          obtain ⟨bb, off, cc, e1, h0, h1c, h2c, hbb, hcell⟩ := hrd.cases.resolve_left (by rintro ⟨h0, _⟩; have := lubs_len (S + j); rw [h0] at this; simp at this; omega)
          have zc : wr.cell? ⟨bb, off + j, none⟩ = some (.int .i64 z) := by rw [hz]; exact hcell j (by rw [lubs_len]; omega)
          obtain ⟨a7, c7, w7, hrun, H7⟩ := int_run (K := z) HI.out.1 (by have := HI.out.2.size; omega) (by rw [lubs_len]; omega)
          rw [lubs_len] at e1 hrun H7 h1c
          have HN : Hid (lubs (S + j) ++ [z] = lubs (S + (j + 1))) := by
            show _ = _
            rw [hz, HS.out]
            exact lubs_dbl (by have := HS.out; omega)
          clear hj hz hrd hcell h0 hu
          subst e1
          unfold maxLen at h2c
          go_wp2
          go_roundg (gk - 1)
          case measure => have := HJ.out; omega
          case rel =>
            have h7 := H7.out
            rw [HN.out] at h7
            exact ⟨j + 1, _, by have := HJ.out; omega, rfl, by go_num, h7.1, (h7.2 w HI.out.2 rfl).1⟩
        · have hjS : j = S := by omega
          subst hjS
          obtain ⟨a7, c7, w7, hrun, H7⟩ := int_run (K := ((2 * E : Nat) : Int)) HI.out.1 (by have := HI.out.2.size; omega) (by rw [lubs_len]; omega)
          rw [lubs_len] at hrun H7
          have hE2 : ((2 * E : Nat) : Int) = 2 * (E : Int) := by omega
          rw [hE2] at hrun
          clear hj
          subst hu
          go_wp2
          go_roundg (gm - 1)
          case measure => have := HG0.out; have := HGM.out; omega
          case rel =>
            have h7 := H7.out
            have ht := lubs_top (m + 1)
            rw [← HS.out, HP.out] at ht
            rw [ht] at h7
            exact ⟨m + 1, _, by have := HM.out; have := HG0.out; have := HGM.out; omega, rfl, by rw [HP.out, hE2], h7.1, (h7.2 w HI.out.2 rfl).1⟩
    · go_wp2
      go_ret
      exact ⟨_, rfl, S, by omega, by omega, HO.out.1, HO.out.2⟩
end Go.Proofs.Ythcbpdnaocpleab
