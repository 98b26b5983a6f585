/-
  trim: the document's Within.
  KEEP: len below nil form rd mono one more grown lt size cell some none of ofNat add out step row get at drop
-/
import Derived.Test.YtldolhllacbhjaaTmW
set_option linter.unusedSimpArgs false
set_option linter.unusedVariables false
namespace Go.Proofs.Ytldolhllacbhjaa
open Go Go.RowKit

theorem RdZ.tail {w : World} {b off c k : Nat} {l : List Stp} {n : Nat} (h : RdZ w (.slice (some ⟨b, off, none⟩) n c) l) (hk : k ≤ l.length) : (c = k → RdZ w (.slice (some ⟨b, off, none⟩) (n - k) 0) (l.drop k)) ∧ (c ≠ k → RdZ w (.slice (some ⟨b, off + k * 2, none⟩) (n - k) (c - k)) (l.drop k)) := by
  refine ⟨fun hc => ?_, fun _ => h.drop k hk⟩
  obtain ⟨_, a, c', e, h1, _⟩ := h
  injection e with q1 q2 q3
  subst q1; subst q2; subst q3
  have e1 : l.drop k = [] := List.drop_eq_nil_of_le (by omega)
  have e2 : l.length - k = 0 := by omega
  rw [e1, e2]
  exact RdZ.empty _ _

theorem wrap_one {k : Nat} (h : k < 4398046511104) : IntKind.i64.wrap ((k : Int) + 1) = (k : Int) + 1 := by rw [IntKind.wrap_i64]; omega
theorem wrap_one' {k : Nat} (h : k < 4398046511104) : wrap64 ((k : Int) + 1) = (k : Int) + 1 := by unfold wrap64; omega
/-- a row of steps from a place on -/
theorem slice_z {w : World} {b off c n k : Nat} {l : List Stp} {z : Int} (h : RdZ w (.slice (some ⟨b, off, none⟩) n c) l) (hz : z = (k : Int)) (hk : k ≤ l.length) : ∃ a' n' c', (∀ W, (Instr.slice 33 (.slice (some ⟨b, off, none⟩) n c) (some (.int .i64 z)) none none).run Try.prog W = .ok (.slice a' n' c') W) ∧ RdZ w (.slice a' n' c') (l.drop k) := by
  have hn : n = l.length := by
    obtain ⟨_, a, c', e, _⟩ := h
    injection e
  subst hz
  have hs : ∀ W : World, (sizeOf (Try.prog.elem 33)).run Try.prog W = .ok 2 W := fun W => by kernel_rfl
  have hr : ∀ W, (Instr.slice 33 (.slice (some ⟨b, off, none⟩) n c) (some (.int .i64 (k : Int))) none none).run Try.prog W = .ok (sliced (some ⟨b, off, none⟩) k n c 2) W := fun W => by
    rw [run_slice_l W 33 (some ⟨b, off, none⟩) n c (by kernel_rfl) .i64 (k : Int) (by omega) (by omega), hs]
    simp
  have T := h.tail hk
  by_cases hc : c = k
  · refine ⟨some ⟨b, off, none⟩, n - k, 0, fun W => by rw [hr]; simp [sliced, hc], T.1 hc⟩
  · refine ⟨some ⟨b, off + k * 2, none⟩, n - k, c - k, fun W => by rw [hr]; simp [sliced, hc, Addr.add_lit], T.2 hc⟩

set_option maxHeartbeats 1600000 in
set_option maxRecDepth 100000 in
theorem rPart_any : ∀ (a : List Stp) (va vb : Value) (b : List Stp) (w : World) (ha : RdZ w va a) (hb : RdZ w vb b),
    Calls Try.prog 13 #[va, vb] w fun e w' => e = .returned (.bool (a.isSublist b)) ∧ Below w.heap.size w w' := by
  intro a
  induction a with
  | nil =>
    intro va vb b w ha hb
    obtain ⟨aa, ca, rfl, hca, hma, _⟩ := ha.form
    clear ha hb
    go_enter Try.func13, Try.ntmps13
    go_wp2
    go_ret
    exact ⟨ret_bool sub_nil.symm, Below.refl _ _⟩
  | cons x A ih =>
    intro va vb b w ha hb
    have hlb := hb.len
    have hla := ha.len
    have IH : Hid (∀ (va vb : Value) (b : List Stp) (w : World), RdZ w va A → RdZ w vb b → Calls Try.prog 13 #[va, vb] w fun e w' => e = .returned (.bool (A.isSublist b)) ∧ Below w.heap.size w w') := ih
    have HA : Hid (RdZ w va (x :: A)) := ha
    have HB : Hid (RdZ w vb b) := hb
    obtain ⟨aa, ca, rfl, hca, hma, hA⟩ := ha.form
    obtain ⟨b1, o1, u1, rfl, hb1, hd1, hu1, hr1⟩ := hA 0 (by simp)
    obtain ⟨ab, cb, rfl, hcb, hmb, _⟩ := hb.form
    obtain ⟨dx, zx⟩ := x
    have e0 : ((dx, zx) :: A).getD 0 (false, []) = (dx, zx) := rfl
    rw [e0] at hd1 hr1
    dsimp only [Nat.zero_mul, Nat.add_zero, List.length_cons] at hd1 hu1 hr1 HA hca hla ⊢
    obtain ⟨_, ua, uc, hua, _⟩ := id hr1
    subst hua
    have HR1 : Hid (Rd w (.slice ua zx.length uc) zx) := hr1
    clear ha hb ih hA hr1
    go_enter Try.func13, Try.ntmps13
    go_wp2
    go_loopg [5] b.length (fun g i wr => ∃ k : Nat, k + g = b.length ∧ i = .int .i64 k ∧ Hid (((dx, zx) :: A).isSublist b = ((dx, zx) :: A).isSublist (b.drop k)) ∧ Below w.heap.size w wr)
    case atStart => exact ⟨0, by omega, rfl, by rw [List.drop_zero]; exact Lib.hid rfl, Below.refl _ _⟩
    case round =>
      obtain ⟨k, hk, rfl, HS, bel⟩ := hrel
      have HK : Hid (k + gk = b.length) := hk
      by_cases hlt : k < b.length
      · obtain ⟨a', c', e', _, _, hcell⟩ := (HB.out.below bel).form
        have e3 : a' = ab ∧ c' = cb := by injection e' with q1 q2 q3; exact ⟨q1.symm, q3.symm⟩
        obtain ⟨rfl, rfl⟩ := e3
        obtain ⟨b2, o2, u2, rfl, hb2, hd2, hu2, hr2⟩ := hcell k hlt
        clear hcell e'
        have HT : Hid (b.drop k = b.getD k (false, []) :: b.drop (k + 1)) := drop_at hlt
        generalize b.getD k (false, []) = y at *
        obtain ⟨dy, zy⟩ := y
        dsimp only at *
        obtain ⟨_, va, vc, hva, _⟩ := id hr2
        subst hva
        have HX : Hid (∀ W, Below wr.heap.size wr W → Calls Try.prog 21 #[.slice ua zx.length uc, .slice va zy.length vc] W fun r w' => r = .returned (.bool (zx == zy)) ∧ Below W.heap.size W w') := fun W h => sameInts_any _ _ zx zy W ((HR1.out.below bel).below h) (hr2.below h)
        have HC : Hid (∀ W, Below wr.heap.size wr W → W.cell? ⟨b1, o1, none⟩ = some (.bool dx) ∧ W.cell? ⟨b1, o1 + 1, none⟩ = some (.slice ua zx.length uc) ∧ W.cell? ⟨b2, o2 + k * 2, none⟩ = some (.bool dy) ∧ W.cell? ⟨b2, o2 + k * 2 + 1, none⟩ = some (.slice va zy.length vc)) := fun W h => by
          have hbw := bel.trans (h.mono bel.size)
          exact ⟨(hbw.cell (p := ⟨b1, o1, none⟩) hb1).trans hd1, (hbw.cell (p := ⟨b1, o1 + 1, none⟩) hb1).trans hu1, (h.cell (p := ⟨b2, o2 + k * 2, none⟩) hb2).trans hd2, (h.cell (p := ⟨b2, o2 + k * 2 + 1, none⟩) hb2).trans hu2⟩
        have hc1 := (HC.out wr (Below.refl _ _)).1
        have hc3 := (HC.out wr (Below.refl _ _)).2.2.1
        clear hr2 hd2 hu2 hk hd1 hu1
        go_upto_region 6 with fail
        cases hdd : (dx == dy)
        · have HN : Hid (((dx, zx) :: A).isSublist b = ((dx, zx) :: A).isSublist (b.drop (k + 1))) := by
            show _ = _
            rw [HS.out, HT.out, sub_step, beq_stp, hdd]; rfl
          clear HX
          go_quiet (fail)
          go_wp2_with fail
          go_roundg (gk - 1)
          case measure => have := HK.out; omega
          case rel => exact ⟨k + 1, by have := HK.out; omega, by go_num, HN.out, Below.step bel (below_drewN _ _)⟩
        · cases hzz : (zx == zy)
          · have HN : Hid (((dx, zx) :: A).isSublist b = ((dx, zx) :: A).isSublist (b.drop (k + 1))) := by
              show _ = _
              rw [HS.out, HT.out, sub_step, beq_stp, hdd, hzz]; rfl
            rw [hzz] at HX
            clear hzz
            go_region_held (fun W' => W'.cell? ⟨b1, o1, none⟩ = some (.bool dx) ∧ W'.cell? ⟨b1, o1 + 1, none⟩ = some (.slice ua zx.length uc) ∧ W'.cell? ⟨b2, o2 + k * 2, none⟩ = some (.bool dy) ∧ W'.cell? ⟨b2, o2 + k * 2 + 1, none⟩ = some (.slice va zy.length vc)) (first | exact HC.out _ (Below.refl _ _).drew | exact HC.out _ bE) (first | (go_at_call 21; refine (HX.out _ (Below.refl _ _).drew).mono ?_; rintro e w2 ⟨rfl, bE0⟩; have bE : Below wr.heap.size wr w2 := Below.step (Below.refl _ _).drew bE0; clear bE0))
            go_wp2_with fail
            go_roundg (gk - 1)
            case measure => have := HK.out; omega
            case rel => exact ⟨k + 1, by have := HK.out; omega, by go_num, HN.out, Below.step bel bE⟩
          · have HN : Hid (((dx, zx) :: A).isSublist b = A.isSublist (b.drop (k + 1))) := by
              show _ = _
              rw [HS.out, HT.out, sub_step, beq_stp, hdd, hzz]; rfl
            rw [hzz] at HX
            clear hzz
            go_region_held (fun W' => W'.cell? ⟨b1, o1, none⟩ = some (.bool dx) ∧ W'.cell? ⟨b1, o1 + 1, none⟩ = some (.slice ua zx.length uc) ∧ W'.cell? ⟨b2, o2 + k * 2, none⟩ = some (.bool dy) ∧ W'.cell? ⟨b2, o2 + k * 2 + 1, none⟩ = some (.slice va zy.length vc)) (first | exact HC.out _ (Below.refl _ _).drew | exact HC.out _ bE) (first | (go_at_call 21; refine (HX.out _ (Below.refl _ _).drew).mono ?_; rintro e w2 ⟨rfl, bE0⟩; have bE : Below wr.heap.size wr w2 := Below.step (Below.refl _ _).drew bE0; clear bE0))
            go_upto_region 7 with fail
            obtain ⟨x1, x2, x3, hs1, A1⟩ := slice_z (z := 1) (k := 1) (HA.out.below (Below.step bel bE)) rfl (by simp)
            obtain ⟨y1, y2, y3, hs2, A2⟩ := slice_z (z := (k : Int) + 1) (k := k + 1) (HB.out.below (Below.step bel bE)) (by omega) (by omega)
            have hk4 : k < 4398046511104 := by omega
            have hw2 := wrap_one' hk4
            have hw1 := wrap_one hk4
            clear hk4
            have HI : Hid (∀ W, Below w2.heap.size w2 W → Calls Try.prog 13 #[.slice x1 x2 x3, .slice y1 y2 y3] W fun e w' => e = .returned (.bool (A.isSublist (b.drop (k + 1)))) ∧ Below W.heap.size W w') := fun W h => IH.out _ _ _ W (A1.below h) (A2.below h)
            have HBE : Hid (Below w.heap.size w w2) := Below.step bel bE
            clear bE A1 A2
            go_region_held (fun W' => True) (exact trivial) (first | (go_at_call 13; refine (HI.out _ (Below.refl _ _).drew).mono ?_; rintro e w3 ⟨rfl, bE0⟩; have bE : Below w2.heap.size w2 w3 := Below.step (Below.refl _ _).drew bE0; clear bE0))
            go_wp2_with fail
            go_ret
            exact ⟨ret_bool HN.out.symm, Below.step HBE.out bE⟩
      · obtain rfl : k = b.length := by omega
        have HE : Hid (((dx, zx) :: A).isSublist b = false) := by
          show _ = _
          rw [HS.out, List.drop_length, sub_none]
        clear hk
        go_wp2
        go_ret
        exact ⟨ret_bool HE.out.symm, bel⟩

end Go.Proofs.Ytldolhllacbhjaa
