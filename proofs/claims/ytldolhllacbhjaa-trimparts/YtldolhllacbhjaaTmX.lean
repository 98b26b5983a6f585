/-
  trim: Within of lists one step longer than what can be handed in.
  KEEP: len below nil form rd mono one more grown lt size cell some none of ofNat add out step row get at drop x
-/
import Derived.Test.YtldolhllacbhjaaTmW
set_option linter.unusedSimpArgs false
set_option linter.unusedVariables false
namespace Go.Proofs.Ytldolhllacbhjaa
open Go Go.RowKit

def RdZx (w : World) (v : Value) (l : List Stp) : Prop :=
  l.length * 32 ≤ 140737488355328 ∧ ∃ a c, v = .slice a l.length c ∧ l.length ≤ c ∧ c ≤ maxLen ∧
    (l ≠ [] → ∃ b off, a = some ⟨b, off, none⟩ ∧ b < w.heap.size ∧ ∀ j, j < l.length → ∃ u, w.cell? ⟨b, off + j * 2, none⟩ = some (.bool (l.getD j (false, [])).1) ∧ w.cell? ⟨b, off + j * 2 + 1, none⟩ = some u ∧ Rd w u (l.getD j (false, [])).2)
theorem RdZx.len {w : World} {v : Value} {l : List Stp} (h : RdZx w v l) : l.length * 32 ≤ 140737488355328 := h.1
theorem RdZx.below {w w' : World} {v : Value} {l : List Stp} (h : RdZx w v l) (hb : Below w.heap.size w w') : RdZx w' v l := by
  obtain ⟨h1, a, c, rfl, hc, hm, h2⟩ := h
  refine ⟨h1, a, c, rfl, hc, hm, fun hne => ?_⟩
  obtain ⟨b, off, rfl, hlt, hcell⟩ := h2 hne
  refine ⟨b, off, rfl, Nat.lt_of_lt_of_le hlt hb.size, fun j hj => ?_⟩
  obtain ⟨u, hd, hu, hr⟩ := hcell j hj
  exact ⟨u, (hb.cell (p := ⟨b, off + j * 2, none⟩) hlt).trans hd, (hb.cell (p := ⟨b, off + j * 2 + 1, none⟩) hlt).trans hu, hr.below hb⟩
theorem RdZx.nil (w : World) : RdZx w (.slice none 0 0) [] := ⟨by simp, none, 0, rfl, Nat.le_refl _, Nat.zero_le _, fun h => absurd rfl h⟩
theorem RdZx.form {w : World} {v : Value} {l : List Stp} (h : RdZx w v l) : ∃ a c, v = .slice a l.length c ∧ l.length ≤ c ∧ c ≤ maxLen ∧ ∀ k, k < l.length → ∃ b off u, a = some ⟨b, off, none⟩ ∧ b < w.heap.size ∧ w.cell? ⟨b, off + k * 2, none⟩ = some (.bool (l.getD k (false, [])).1) ∧ w.cell? ⟨b, off + k * 2 + 1, none⟩ = some u ∧ Rd w u (l.getD k (false, [])).2 := by
  obtain ⟨h1, a, c, rfl, hc, hm, h2⟩ := h
  refine ⟨a, c, rfl, hc, hm, fun k hk => ?_⟩
  obtain ⟨b, off, e, hb, hcell⟩ := h2 (by intro e; subst e; simp at hk)
  obtain ⟨u, hd, hu, hr⟩ := hcell k hk
  exact ⟨b, off, u, e, hb, hd, hu, hr⟩
theorem RdZ.x {w : World} {v : Value} {l : List Stp} (h : RdZ w v l) : RdZx w v l := ⟨by have := h.1; omega, h.2⟩
theorem OwnZ.rdzx {B : Nat} {W : World} {s : Value} {L : List SV} (h : OwnZ B W s L) (h32 : L.length * 32 ≤ 140737488355328) (h8 : ∀ x ∈ L, x.2.2.length * 8 ≤ 140737488351232) : RdZx W s (svS L) := by
  rcases h.row.2 with ⟨rfl, hn⟩ | ⟨g, cap, cur, hv, hg, hh, hn, hm, hs, ht⟩
  · have : L = [] := List.length_eq_zero_iff.1 hn
    subst this; exact RdZx.nil W
  · subst hv
    refine ⟨by rw [svS_len]; exact h32, _, cap, by rw [svS_len], by rw [svS_len]; exact hn, hm, fun _ => ⟨g, 0, rfl, (Array.getElem?_eq_some_iff.1 hh).1, fun j hj => ?_⟩⟩
    have hj' : j < L.length := by rw [svS_len] at hj; exact hj
    obtain ⟨e1, e2⟩ := svC_at L j hj'
    have e : (svS L).getD j (false, []) = (L[j].1, L[j].2.2) := by simp [svS, List.getD_eq_getElem?_getD, hj']
    rw [e]
    refine ⟨L[j].2.1, ?_, ?_, (h.own _ (List.getElem_mem hj')).rd (h8 _ (List.getElem_mem hj'))⟩
    · rw [Nat.zero_add, World.ownsRow.cellAt h.row _ (by omega), e1]
    · rw [Nat.zero_add, World.ownsRow.cellAt h.row _ (by omega), e2]
theorem RdZx.drop {w : World} {b off n c : Nat} {l : List Stp} (h : RdZx w (.slice (some ⟨b, off, none⟩) n c) l) (k : Nat) (hk : k ≤ l.length) :
    RdZx w (.slice (some ⟨b, off + k * 2, none⟩) (n - k) (c - k)) (l.drop k) := by
  obtain ⟨h1, a, c', e, hc, hm, h2⟩ := h
  injection e with q1 q2 q3
  subst q1; subst q2; subst q3
  refine ⟨by simp; omega, _, _, by rw [List.length_drop], by simp; omega, by omega, fun hne => ?_⟩
  obtain ⟨b', o', e, hb, hcell⟩ := h2 (by intro e; subst e; simp at hne)
  injection e with e
  injection e with q1 q2
  subst q1; subst q2
  refine ⟨_, _, rfl, hb, fun j hj => ?_⟩
  obtain ⟨u, hd, hu, hr⟩ := hcell (k + j) (by simp at hj; omega)
  have e2 : (l.drop k).getD j (false, []) = l.getD (k + j) (false, []) := by simp [List.getD_eq_getElem?_getD]
  rw [e2, show off + k * 2 + j * 2 = off + (k + j) * 2 by omega]
  exact ⟨u, hd, hu, hr⟩
theorem RdZx.empty (w : World) (a : Option Addr) : RdZx w (.slice a 0 0) [] := ⟨by simp, a, 0, rfl, Nat.le_refl _, Nat.zero_le _, fun h => absurd rfl h⟩
set_option maxHeartbeats 1600000 in
set_option maxRecDepth 100000 in
theorem within_x (va vb : Value) (a b : List Stp) (w : World) (ha : RdZx w va a) (hb : RdZx w vb b) :
    Calls Try.prog 11 #[va, vb] w fun e w' => e = .returned (.bool (a.isSublist b)) ∧ Below w.heap.size w w' := by
  have hlb := hb.len
  have HA : Hid (RdZx w va a) := ha
  have HB : Hid (RdZx w vb b) := hb
  obtain ⟨aa, ca, rfl, hca, hma, _⟩ := ha.form
  obtain ⟨ab, cb, rfl, hcb, hmb, _⟩ := hb.form
  clear ha hb
  go_enter Try.func11, Try.ntmps11
  go_wp2
  go_loopg [0, 9] b.length (fun g u i wr => ∃ (k : Nat) (A : List Stp), k + g = b.length ∧ i = .int .i64 k ∧ Hid (RdZx wr u A) ∧ Hid (a.isSublist b = A.isSublist (b.drop k)) ∧ Below w.heap.size w wr)
  case atStart => exact ⟨0, a, by omega, rfl, HA, by rw [List.drop_zero]; exact Lib.hid rfl, Below.refl _ _⟩
  case round =>
    obtain ⟨k, A, hk, rfl, RA, HS, bel⟩ := hrel
    have HK : Hid (k + gk = b.length) := hk
    by_cases hlt : k < b.length
    · obtain ⟨a', c', e', _, _, hcell⟩ := (HB.out.below bel).form
      have e3 : a' = ab ∧ c' = cb := by injection e' with q1 q2 q3; exact ⟨q1.symm, q3.symm⟩
      obtain ⟨rfl, rfl⟩ := e3
      obtain ⟨b1, o1, u1, rfl, hb1, hd1, hu1, hr1⟩ := hcell k hlt
      clear hcell e'
      have HT : Hid (b.drop k = b.getD k (false, []) :: b.drop (k + 1)) := drop_at hlt
      generalize b.getD k (false, []) = y at *
      obtain ⟨dy, zy⟩ := y
      dsimp only at *
      obtain ⟨_, ua, uc, hua, _⟩ := id hr1
      subst hua
      have HR1 : Hid (Rd wr (.slice ua zy.length uc) zy) := hr1
      clear hr1 hk
      obtain ⟨aA, cA, rfl, hcA, hmA, hA⟩ := RA.out.form
      cases A with
      | nil =>
        dsimp only [List.length_nil] at RA hcA ⊢
        have HB1 : Hid (Below wr.heap.size wr (wr.alloc (.cells #[.bool dy, .slice ua zy.length uc] 38))) := below_box wr _
        clear hA
        go_upto_region 4 with fail
        generalize wr.alloc (.cells #[.bool dy, .slice ua zy.length uc] 38) = W1 at *
        go_quiet (fail)
        go_wp2_with fail
        go_roundg (gk - 1)
        case measure => have := HK.out; omega
        case rel => exact ⟨k + 1, [], by have := HK.out; omega, by go_num, RA.out.below (Below.step HB1.out (below_drewN _ _)), by show _ = _; rw [HS.out, sub_nil, sub_nil], Below.step bel (Below.step HB1.out (below_drewN _ _))⟩
      | cons x A =>
        obtain ⟨b2, o2, u2, rfl, hb2, hd2, hu2, hr2⟩ := hA 0 (by simp)
        obtain ⟨dx, zx⟩ := x
        have e0 : ((dx, zx) :: A).getD 0 (false, []) = (dx, zx) := rfl
        rw [e0] at hd2 hr2
        dsimp only [Nat.zero_mul, Nat.add_zero, List.length_cons] at hd2 hu2 hr2 RA hcA ⊢
        obtain ⟨_, va, vc, hva, _⟩ := id hr2
        subst hva
        have HX : Hid (∀ W, Below wr.heap.size wr W → Calls Try.prog 20 #[.agg #[.bool dx, .slice va zx.length vc], .agg #[.bool dy, .slice ua zy.length uc]] W fun r w' => r = .returned (.bool (dx == dy && zx == zy)) ∧ Below W.heap.size W w') := fun W h => alike_any dx dy _ _ zx zy W (hr2.below h) (HR1.out.below h)
        have HD : Hid (RdZx wr (.slice (some ⟨b2, o2 + 2, none⟩) A.length (cA - 1)) A) := by
          show RdZx _ _ _
          have := RA.out.drop 1 (by simp)
          simpa using this
        have HB1 : Hid (Below wr.heap.size wr (wr.alloc (.cells #[.bool dy, .slice ua zy.length uc] 38))) := below_box wr _
        have HC : Hid (∀ W, Below (wr.alloc (.cells #[.bool dy, .slice ua zy.length uc] 38)).heap.size (wr.alloc (.cells #[.bool dy, .slice ua zy.length uc] 38)) W → W.cell? ⟨b2, o2, none⟩ = some (.bool dx) ∧ W.cell? ⟨b2, o2 + 1, none⟩ = some (.slice va zx.length vc) ∧ W.cell? ⟨wr.heap.size, 0, none⟩ = some (.bool dy) ∧ W.cell? ⟨wr.heap.size, 1, none⟩ = some (.slice ua zy.length uc)) := fun W h => by
          have hbw := Below.step HB1.out h
          have hsz : wr.heap.size < (wr.alloc (.cells #[.bool dy, .slice ua zy.length uc] 38)).heap.size := by rw [World.size_alloc]; omega
          exact ⟨(hbw.cell (p := ⟨b2, o2, none⟩) hb2).trans hd2, (hbw.cell (p := ⟨b2, o2 + 1, none⟩) hb2).trans hu2, (h.cell (p := ⟨wr.heap.size, 0, none⟩) hsz).trans (box_cell12 (World.alloc_heap_new wr _) rfl), (h.cell (p := ⟨wr.heap.size, 1, none⟩) hsz).trans (box_cell12 (World.alloc_heap_new wr _) rfl)⟩
        clear hA hr2 hd2 hu2
        go_upto_region 4 with fail
        generalize wr.alloc (.cells #[.bool dy, .slice ua zy.length uc] 38) = W1 at *
        obtain ⟨D, hsz0⟩ : ∃ D, wr.heap.size = D := ⟨_, rfl⟩
        rw [hsz0] at HC ⊢
        clear hsz0
        cases hxy : (dx == dy && zx == zy)
        · have HN : Hid (a.isSublist b = ((dx, zx) :: A).isSublist (b.drop (k + 1))) := by
            show _ = _
            rw [HS.out, HT.out, sub_step, beq_stp, hxy]; rfl
          rw [hxy] at HX
          clear hxy
          go_region_held (fun W' => W'.cell? ⟨b2, o2, none⟩ = some (.bool dx) ∧ W'.cell? ⟨b2, o2 + 1, none⟩ = some (.slice va zx.length vc) ∧ W'.cell? ⟨D, 0, none⟩ = some (.bool dy) ∧ W'.cell? ⟨D, 1, none⟩ = some (.slice ua zy.length uc)) (first | exact HC.out _ (Below.refl _ _).drew | exact HC.out _ bE) (first | (go_at_call 20; refine (HX.out _ (Below.step HB1.out (Below.refl _ _).drew)).mono ?_; rintro e w2 ⟨rfl, bE0⟩; have bE : Below W1.heap.size W1 w2 := Below.step (Below.refl _ _).drew bE0; clear bE0))
          go_wp2_with fail
          go_roundg (gk - 1)
          case measure => have := HK.out; omega
          case rel => exact ⟨k + 1, (dx, zx) :: A, by have := HK.out; omega, by go_num, RA.out.below (Below.step HB1.out bE), HN.out, Below.step bel (Below.step HB1.out bE)⟩
        · have HN : Hid (a.isSublist b = A.isSublist (b.drop (k + 1))) := by
            show _ = _
            rw [HS.out, HT.out, sub_step, beq_stp, hxy]; rfl
          rw [hxy] at HX
          clear hxy
          go_region_held (fun W' => W'.cell? ⟨b2, o2, none⟩ = some (.bool dx) ∧ W'.cell? ⟨b2, o2 + 1, none⟩ = some (.slice va zx.length vc) ∧ W'.cell? ⟨D, 0, none⟩ = some (.bool dy) ∧ W'.cell? ⟨D, 1, none⟩ = some (.slice ua zy.length uc)) (first | exact HC.out _ (Below.refl _ _).drew | exact HC.out _ bE) (first | (go_at_call 20; refine (HX.out _ (Below.step HB1.out (Below.refl _ _).drew)).mono ?_; rintro e w2 ⟨rfl, bE0⟩; have bE : Below W1.heap.size W1 w2 := Below.step (Below.refl _ _).drew bE0; clear bE0))
          have hcA1 : A.length + 1 ≤ cA := hcA
          go_wp2_with fail
          · rename_i hq
            have hA0 : A = [] := List.eq_nil_of_length_eq_zero (by omega)
            subst hA0
            go_roundg (gk - 1)
            case measure => have := HK.out; omega
            case rel => exact ⟨k + 1, [], by have := HK.out; omega, by go_num, RdZx.empty _ _, HN.out, Below.step bel (Below.step HB1.out bE)⟩
          · go_roundg (gk - 1)
            case measure => have := HK.out; omega
            case rel => exact ⟨k + 1, A, by have := HK.out; omega, by go_num, HD.out.below (Below.step HB1.out bE), HN.out, Below.step bel (Below.step HB1.out bE)⟩
    · obtain rfl : k = b.length := by omega
      have HE : Hid (a.isSublist b = decide (A.length = 0)) := by
        show _ = _
        rw [HS.out, List.drop_length, sub_end]
      obtain ⟨aA, cA, rfl, hcA, hmA, hA⟩ := RA.out.form
      clear hk hA
      go_wp2
      go_ret
      exact ⟨ret_bool (by rw [HE.out, Bool.eq_iff_iff]; simp), bel⟩

end Go.Proofs.Ytldolhllacbhjaa
