/-
  trim: alike, Within; the document's Within.
  KEEP: len below nil form rd mono one more grown lt size cell some none of ofNat add out step row get at drop
-/
import Derived.Test.YtldolhllacbhjaaTmP
import Derived.Test.YtldolhllacbhjaaDrC
import Derived.Test.YtldolhllacbhjaaTidy
set_option linter.unusedSimpArgs false
set_option linter.unusedVariables false
namespace Go.Proofs.Ytldolhllacbhjaa
open Go Go.RowKit

set_option maxHeartbeats 1600000 in
set_option maxRecDepth 100000 in
theorem alike_any (d e : Bool) (va vb : Value) (x y : List Int) (w : World) (hx : Rd w va x) (hy : Rd w vb y) :
    Calls Try.prog 20 #[.agg #[.bool d, va], .agg #[.bool e, vb]] w fun r w' => r = .returned (.bool (d == e && x == y)) ∧ Below w.heap.size w w' := by
  have HQ : Hid (∀ W, Below w.heap.size w W → Calls Try.prog 24 #[va, vb] W fun r w' => r = .returned (.bool (x == y)) ∧ Below w.heap.size w w') := fun W h => (equal_any va vb x y W (hx.below h) (hy.below h)).mono fun r w' hh => ⟨hh.1, Below.step h hh.2⟩
  have hb1 := below_box w (.cells #[.bool d, va] 38)
  have hb2 := Below.step hb1 (below_box (w.alloc (.cells #[.bool d, va] 38)) (.cells #[.bool e, vb] 38))
  have HB : Hid (Below w.heap.size w ((w.alloc (.cells #[.bool d, va] 38)).alloc (.cells #[.bool e, vb] 38))) := hb2
  obtain ⟨aa, ca, rfl, _⟩ := hx.form
  obtain ⟨ab, cb, rfl, _⟩ := hy.form
  clear hx hy hb1 hb2
  cases d <;> cases e
  all_goals
    go_enter Try.func20, Try.ntmps20
    go_wp2_with (go_at_call 24; refine (HQ.out _ HB.out).mono ?_; rintro r w2 ⟨rfl, hb⟩; have H2 : Hid (Below w.heap.size w w2) := hb; clear hb)
    go_returns
    first
      | exact ⟨rfl, H2.out⟩
      | exact ⟨rfl, HB.out⟩

theorem box_cell12 {W : World} {g j : Nat} {c : Array Value} {e : TypeId} {f : Nat × Nat} {v : Value} (h : W.heap[g]? = some (.cells c e f)) (hj : c[j]? = some v) : W.cell? ⟨g, j, none⟩ = some v := by
  show (match W.heap[g]? with | some (Obj.cells c elem frozen) => c[j]? | x => none) = _
  rw [h]; exact hj
set_option maxHeartbeats 1600000 in

theorem RdZ.empty (w : World) (a : Option Addr) : RdZ w (.slice a 0 0) [] := ⟨by simp, a, 0, rfl, Nat.le_refl _, Nat.zero_le _, fun h => absurd rfl h⟩
theorem sub_end {a : List Stp} : a.isSublist [] = decide (a.length = 0) := by cases a <;> rfl
set_option maxHeartbeats 1600000 in
set_option maxRecDepth 100000 in
theorem within_any (va vb : Value) (a b : List Stp) (w : World) (ha : RdZ w va a) (hb : RdZ w vb b) :
    Calls Try.prog 11 #[va, vb] w fun e w' => e = .returned (.bool (a.isSublist b)) ∧ Below w.heap.size w w' := by
  have hlb := hb.len
  have HA : Hid (RdZ w va a) := ha
  have HB : Hid (RdZ w vb b) := hb
  obtain ⟨aa, ca, rfl, hca, hma, _⟩ := ha.form
  obtain ⟨ab, cb, rfl, hcb, hmb, _⟩ := hb.form
  clear ha hb
  go_enter Try.func11, Try.ntmps11
  go_wp2
  go_loopg [0, 9] b.length (fun g u i wr => ∃ (k : Nat) (A : List Stp), k + g = b.length ∧ i = .int .i64 k ∧ Hid (RdZ wr u A) ∧ Hid (a.isSublist b = A.isSublist (b.drop k)) ∧ Below w.heap.size w wr)
  case atStart => exact ⟨0, a, by omega, rfl, HA, by rw [List.drop_zero]; exact Lib.hid rfl, Below.refl _ _⟩
  case round =>
    obtain ⟨k, A, hk, rfl, RA, HS, bel⟩ := hrel
    have HK : Hid (k + gk = b.length) := hk
    by_cases hlt : k < b.length
    · obtain ⟨a', c', e', _, _, hcell⟩ := (HB.out.below bel).form
      have e3 : a' = ab ∧ c' = cb := by injection e' with q1 q2 q3; exact ⟨q1.symm, q3.symm⟩
      obtain ⟨rfl, rfl⟩ := e3
      obtain ⟨b1, o1, u1, rfl, hb1, hd1, hu1, hr1⟩ := hcell k hlt
      clear hcell e'
      have HT : Hid (b.drop k = b.getD k (false, []) :: b.drop (k + 1)) := drop_at hlt
      generalize b.getD k (false, []) = y at *
      obtain ⟨dy, zy⟩ := y
      dsimp only at *
      obtain ⟨_, ua, uc, hua, _⟩ := id hr1
      subst hua
      have HR1 : Hid (Rd wr (.slice ua zy.length uc) zy) := hr1
      clear hr1 hk
      obtain ⟨aA, cA, rfl, hcA, hmA, hA⟩ := RA.out.form
      cases A with
      | nil =>
        dsimp only [List.length_nil] at RA hcA ⊢
        have HB1 : Hid (Below wr.heap.size wr (wr.alloc (.cells #[.bool dy, .slice ua zy.length uc] 38))) := below_box wr _
        clear hA
        go_upto_region 4 with fail
        generalize wr.alloc (.cells #[.bool dy, .slice ua zy.length uc] 38) = W1 at *
        go_quiet (fail)
        go_wp2_with fail
        go_roundg (gk - 1)
        case measure => have := HK.out; omega
        case rel => exact ⟨k + 1, [], by have := HK.out; omega, by go_num, RA.out.below (Below.step HB1.out (below_drewN _ _)), by show _ = _; rw [HS.out, sub_nil, sub_nil], Below.step bel (Below.step HB1.out (below_drewN _ _))⟩
      | cons x A =>
        obtain ⟨b2, o2, u2, rfl, hb2, hd2, hu2, hr2⟩ := hA 0 (by simp)
        obtain ⟨dx, zx⟩ := x
        have e0 : ((dx, zx) :: A).getD 0 (false, []) = (dx, zx) := rfl
        rw [e0] at hd2 hr2
        dsimp only [Nat.zero_mul, Nat.add_zero, List.length_cons] at hd2 hu2 hr2 RA hcA ⊢
        obtain ⟨_, va, vc, hva, _⟩ := id hr2
        subst hva
        have HX : Hid (∀ W, Below wr.heap.size wr W → Calls Try.prog 20 #[.agg #[.bool dx, .slice va zx.length vc], .agg #[.bool dy, .slice ua zy.length uc]] W fun r w' => r = .returned (.bool (dx == dy && zx == zy)) ∧ Below W.heap.size W w') := fun W h => alike_any dx dy _ _ zx zy W (hr2.below h) (HR1.out.below h)
        have HD : Hid (RdZ wr (.slice (some ⟨b2, o2 + 2, none⟩) A.length (cA - 1)) A) := by
          show RdZ _ _ _
          have := RA.out.drop 1 (by simp)
          simpa using this
        have HB1 : Hid (Below wr.heap.size wr (wr.alloc (.cells #[.bool dy, .slice ua zy.length uc] 38))) := below_box wr _
        have HC : Hid (∀ W, Below (wr.alloc (.cells #[.bool dy, .slice ua zy.length uc] 38)).heap.size (wr.alloc (.cells #[.bool dy, .slice ua zy.length uc] 38)) W → W.cell? ⟨b2, o2, none⟩ = some (.bool dx) ∧ W.cell? ⟨b2, o2 + 1, none⟩ = some (.slice va zx.length vc) ∧ W.cell? ⟨wr.heap.size, 0, none⟩ = some (.bool dy) ∧ W.cell? ⟨wr.heap.size, 1, none⟩ = some (.slice ua zy.length uc)) := fun W h => by
          have hbw := Below.step HB1.out h
          have hsz : wr.heap.size < (wr.alloc (.cells #[.bool dy, .slice ua zy.length uc] 38)).heap.size := by rw [World.size_alloc]; omega
          exact ⟨(hbw.cell (p := ⟨b2, o2, none⟩) hb2).trans hd2, (hbw.cell (p := ⟨b2, o2 + 1, none⟩) hb2).trans hu2, (h.cell (p := ⟨wr.heap.size, 0, none⟩) hsz).trans (box_cell12 (World.alloc_heap_new wr _) rfl), (h.cell (p := ⟨wr.heap.size, 1, none⟩) hsz).trans (box_cell12 (World.alloc_heap_new wr _) rfl)⟩
        clear hA hr2 hd2 hu2
        go_upto_region 4 with fail
        generalize wr.alloc (.cells #[.bool dy, .slice ua zy.length uc] 38) = W1 at *
        obtain ⟨D, hsz0⟩ : ∃ D, wr.heap.size = D := ⟨_, rfl⟩
        rw [hsz0] at HC ⊢
        clear hsz0
        cases hxy : (dx == dy && zx == zy)
        · have HN : Hid (a.isSublist b = ((dx, zx) :: A).isSublist (b.drop (k + 1))) := by
            show _ = _
            rw [HS.out, HT.out, sub_step, beq_stp, hxy]; rfl
          rw [hxy] at HX
          clear hxy
          go_region_held (fun W' => W'.cell? ⟨b2, o2, none⟩ = some (.bool dx) ∧ W'.cell? ⟨b2, o2 + 1, none⟩ = some (.slice va zx.length vc) ∧ W'.cell? ⟨D, 0, none⟩ = some (.bool dy) ∧ W'.cell? ⟨D, 1, none⟩ = some (.slice ua zy.length uc)) (first | exact HC.out _ (Below.refl _ _).drew | exact HC.out _ bE) (first | (go_at_call 20; refine (HX.out _ (Below.step HB1.out (Below.refl _ _).drew)).mono ?_; rintro e w2 ⟨rfl, bE0⟩; have bE : Below W1.heap.size W1 w2 := Below.step (Below.refl _ _).drew bE0; clear bE0))
          go_wp2_with fail
          go_roundg (gk - 1)
          case measure => have := HK.out; omega
          case rel => exact ⟨k + 1, (dx, zx) :: A, by have := HK.out; omega, by go_num, RA.out.below (Below.step HB1.out bE), HN.out, Below.step bel (Below.step HB1.out bE)⟩
        · have HN : Hid (a.isSublist b = A.isSublist (b.drop (k + 1))) := by
            show _ = _
            rw [HS.out, HT.out, sub_step, beq_stp, hxy]; rfl
          rw [hxy] at HX
          clear hxy
          go_region_held (fun W' => W'.cell? ⟨b2, o2, none⟩ = some (.bool dx) ∧ W'.cell? ⟨b2, o2 + 1, none⟩ = some (.slice va zx.length vc) ∧ W'.cell? ⟨D, 0, none⟩ = some (.bool dy) ∧ W'.cell? ⟨D, 1, none⟩ = some (.slice ua zy.length uc)) (first | exact HC.out _ (Below.refl _ _).drew | exact HC.out _ bE) (first | (go_at_call 20; refine (HX.out _ (Below.step HB1.out (Below.refl _ _).drew)).mono ?_; rintro e w2 ⟨rfl, bE0⟩; have bE : Below W1.heap.size W1 w2 := Below.step (Below.refl _ _).drew bE0; clear bE0))
          have hcA1 : A.length + 1 ≤ cA := hcA
          go_wp2_with fail
          · rename_i hq
            have hA0 : A = [] := List.eq_nil_of_length_eq_zero (by omega)
            subst hA0
            go_roundg (gk - 1)
            case measure => have := HK.out; omega
            case rel => exact ⟨k + 1, [], by have := HK.out; omega, by go_num, RdZ.empty _ _, HN.out, Below.step bel (Below.step HB1.out bE)⟩
          · go_roundg (gk - 1)
            case measure => have := HK.out; omega
            case rel => exact ⟨k + 1, A, by have := HK.out; omega, by go_num, HD.out.below (Below.step HB1.out bE), HN.out, Below.step bel (Below.step HB1.out bE)⟩
    · obtain rfl : k = b.length := by omega
      have HE : Hid (a.isSublist b = decide (A.length = 0)) := by
        show _ = _
        rw [HS.out, List.drop_length, sub_end]
      obtain ⟨aA, cA, rfl, hcA, hmA, hA⟩ := RA.out.form
      clear hk hA
      go_wp2
      go_ret
      exact ⟨ret_bool (by rw [HE.out, Bool.eq_iff_iff]; simp), bel⟩

end Go.Proofs.Ytldolhllacbhjaa
