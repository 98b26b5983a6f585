import Derived.Test.YthplkllphpnaoabRows
import Derived.Test.YthplkllphpnaoabFind
import Derived.Test.YthplkllphpnaoabAsk
import Derived.Test.YthplkllphpnaoabOpen
import Derived.WalkKit
import Derived.ProofKit
import Derived.OpenShut
import Derived.ShutString
import Derived.ChangeOld
import Derived.Below
import Derived.SizedLaws
set_option linter.unusedVariables false
set_option linter.unusedSimpArgs false
namespace Go.Proofs.Ythplkllphpnaoab.litsSets
open Go.ChangeShapes Go.WideShapes Go.ChangeAt Go.RowKit
open Go.ChangeMaps (open_string shut_string)

theorem own : ownKnob Try.prog.godebug = none := by kernel_rfl
theorem laidOut : laidOutB Try.prog = true := by kernel_rfl

theorem wout8 (zs : List Int) (l : Int) : (wout (tid zs) l).length * 8 ≤ 140737488351232 := by
  have h1 : (wout (tid zs) l).length ≤ (tid zs).length := List.length_filter_le _ _
  have := tid_len zs; omega
/-- the place of the one ahead; -1 ahead of the first -/
def lastI (t : List Int) : Nat → Int
  | 0 => -1
  | k + 1 => idx (t.getD k 0)
theorem getD_mem {t : List Int} {k : Nat} (h : k < t.length) : t.getD k 0 ∈ t := by
  rw [List.getD_eq_getElem?_getD, List.getElem?_eq_getElem h]; exact List.getElem_mem h
theorem lastI_lt {zs : List Int} {k : Nat} (h : k < (tid zs).length) : lastI (tid zs) k < idx ((tid zs).getD k 0) := by
  cases k with
  | zero => have := idx_range (tid_fmd _ (getD_mem h)); simp only [lastI]; omega
  | succ k => exact rise_getD (tid_rising zs) (show k < k + 1 by omega) h
theorem in_tid {zs : List Int} {z : Int} (h : z ∈ zs) : (tid zs).contains z = fmd z := by
  rw [Bool.eq_iff_iff, List.contains_iff_mem, mem_tid]
  exact ⟨fun h => h.2, fun hf => ⟨h, hf⟩⟩
theorem in_wout {zs : List Int} {z l : Int} (h : z ∈ zs) : (wout (tid zs) l).contains z = (fmd z && (z != l)) := by
  rw [Bool.eq_iff_iff, List.contains_iff_mem, Bool.and_eq_true]
  unfold wout
  rw [List.mem_filter, mem_tid]
  constructor
  · rintro ⟨⟨_, a⟩, b⟩; exact ⟨a, b⟩
  · rintro ⟨a, b⟩; exact ⟨⟨h, a⟩, b⟩
theorem same_self (va vb : Value) (a b : List Int) (e : b = a) (w : World) (ha : Rd w va a) (hb : Rd w vb b) :
    Calls Try.prog 18 #[va, vb] w fun e w' => e = .returned (.bool true) ∧ Below w.heap.size w w' := by
  subst e
  have := same01_any va vb b b w ha hb
  rw [show (b == b) = true from beq_self_eq_true b] at this
  exact this
theorem tid_tid_eq (zs : List Int) : tid (tid zs) = tid zs := tid_id (tid_rising zs) tid_fmd
theorem tid_wout_eq (zs : List Int) (l : Int) : tid (wout (tid zs) l) = wout (tid zs) l := tid_id (wout_rises (tid_rises zs) l).1 (wout_rises (tid_rises zs) l).2
theorem tid_one3 : tid [3, -1, 3] = [-1, 3] := by decide
theorem own_three (w : World) (x y z : Int) : Own w.heap.size (w.alloc (.cells #[.int .i64 x, .int .i64 y, .int .i64 z] 3)) (.slice (some ⟨w.heap.size, 0, none⟩) 3 3) [x, y, z] :=
  World.ownsRow_lit w #[.int .i64 x, .int .i64 y, .int .i64 z] 3 (Nat.le_refl _) (by unfold maxLen; omega) (by simp)
theorem own_two (w : World) (x y : Int) : Own w.heap.size (w.alloc (.cells #[.int .i64 x, .int .i64 y] 3)) (.slice (some ⟨w.heap.size, 0, none⟩) 2 2) [x, y] :=
  World.ownsRow_lit w #[.int .i64 x, .int .i64 y] 2 (Nat.le_refl _) (by unfold maxLen; omega) (by simp)

set_option maxHeartbeats 6400000 in
set_option maxRecDepth 100000 in
theorem walk (u0 u1 : Value) (a2 : Int) (z0 z1 : List Int) (w : World) (r0 : Rd w u0 z0) (r1 : Rd w u1 z1) (w2 : (Lit.int .i64 a2).wf = true) :
    Calls Try.prog 4 #[u0, u1, .int .i64 a2] w fun e w' => e = .returned (.bool true) ∧ Below w.heap.size w w' := by
  go_enter Try.func4, Try.ntmps4
  go_wp2_with fail
  refine (copied_any u0 z0 w (r0)).mono ?_
  rintro e w1 ⟨v1, rfl, own1, bel1⟩
  have rd1 := own1.rd ((r0).len)
  go_wp2_with fail
  refine (tidy_any v1 z0 w1 (rd1)).mono ?_
  rintro e w2 ⟨v2, rfl, own2, bel2⟩
  have rd2 := own2.rd (tid8 _)
  have rn3 := ((r0).below bel1).below bel2
  have rn4 := ((r1).below bel1).below bel2
  have bl5 : Below w.heap.size w w2 := (Below.step bel1 bel2)
  go_wp2_with fail
  refine (copied_any u0 z0 w2 (rn3)).mono ?_
  rintro e w6 ⟨v6, rfl, own6, bel6⟩
  have rd6 := own6.rd ((rn3).len)
  go_wp2_with fail
  refine (without_any v6 z0 a2 w6 (rd6)).mono ?_
  rintro e w7 ⟨v7, rfl, own7, bel7⟩
  have rd7 := own7.rd (wout8 _ _)
  have rn8 := ((rn3).below bel6).below bel7
  have rn9 := ((rn4).below bel6).below bel7
  have rn10 := (((rd1).below bel2).below bel6).below bel7
  have rn11 := ((rd2).below bel6).below bel7
  have bl12 : Below w.heap.size w w7 := (Below.step (Below.step bl5 bel6) bel7)
  go_wp2_with fail
  refine (copied_any u0 z0 w7 (rn8)).mono ?_
  rintro e w13 ⟨v13, rfl, own13, bel13⟩
  have rd13 := own13.rd ((rn8).len)
  go_wp2_with fail
  refine (copied_any u1 z1 w13 ((rn9).below bel13)).mono ?_
  rintro e w14 ⟨v14, rfl, own14, bel14⟩
  have rd14 := own14.rd (((rn9).below bel13).len)
  go_wp2_with fail
  refine (join_any sortSaid compactSaid v13 v14 z0 z1 w14 ((rd13).below bel14) (rd14)).mono ?_
  rintro e w15 ⟨v15, rfl, own15, bel15⟩
  have rd15 := own15.rd (tid8 _)
  have rn16 := (((rn8).below bel13).below bel14).below bel15
  have rn17 := (((rn9).below bel13).below bel14).below bel15
  have rn18 := (((rn10).below bel13).below bel14).below bel15
  have rn19 := (((rn11).below bel13).below bel14).below bel15
  have rn20 := ((((rd6).below bel7).below bel13).below bel14).below bel15
  have rn21 := (((rd7).below bel13).below bel14).below bel15
  have rn22 := ((rd13).below bel14).below bel15
  have bl23 : Below w.heap.size w w15 := (Below.step (Below.step (Below.step bl12 bel13) bel14) bel15)
  have RT : Hid (Rd w15 v2 (tid z0)) := (rn19)
  have RW : Hid (Rd w15 v7 (wout (tid z0) a2)) := (rn21)
  have RJ : Hid (Rd w15 v15 (tid (z0 ++ z1))) := (rd15)
  have RC : Hid (Rd w15 u0 z0) := (rn16)
  have RD : Hid (Rd w15 u1 z1) := (rn17)
  have BL : Hid (Below w.heap.size w w15) := bl23

  have hlt1 := tid_len z0
  have hlj := tid_len (z0 ++ z1)
  have hlc := RC.out.len
  have hld := RD.out.len
  obtain ⟨_, at', ct, ht, _, _, _, h2t⟩ := RT.out
  obtain ⟨_, aj, cj, hj, _, _, _, h2j⟩ := RJ.out
  obtain ⟨_, ac, cc, hc, _, _, _, h2c⟩ := RC.out
  obtain ⟨_, ad, cd, hd, _, _, _, h2d⟩ := RD.out
  have H2t : Hid (AddrOf w15 at' (tid z0)) := h2t
  have H2j : Hid (AddrOf w15 aj (tid (z0 ++ z1))) := h2j
  have H2c : Hid (AddrOf w15 ac z0) := h2c
  have H2d : Hid (AddrOf w15 ad z1) := h2d
  have L1 : Hid (∀ k, k < (tid z0).length → lastI (tid z0) k < idx ((tid z0).getD k 0) ∧ z0.contains ((tid z0).getD k 0) = true) := fun k h => ⟨lastI_lt h, List.contains_iff_mem.2 (mem_tid.1 (getD_mem h)).1⟩
  have L2 : Hid (∀ k, k < z0.length → (tid z0).contains (z0.getD k 0) = fmd (z0.getD k 0) ∧ (tid (z0 ++ z1)).contains (z0.getD k 0) = fmd (z0.getD k 0) ∧ (wout (tid z0) a2).contains (z0.getD k 0) = (fmd (z0.getD k 0) && (z0.getD k 0 != a2))) := fun k h => ⟨in_tid (getD_mem h), in_tid (List.mem_append_left _ (getD_mem h)), in_wout (getD_mem h)⟩
  have L3 : Hid (∀ k, k < z1.length → (tid (z0 ++ z1)).contains (z1.getD k 0) = fmd (z1.getD k 0)) := fun k h => in_tid (List.mem_append_right _ (getD_mem h))
  have L4 : Hid (∀ k, k < (tid (z0 ++ z1)).length → z0.contains ((tid (z0 ++ z1)).getD k 0) = true ∨ z1.contains ((tid (z0 ++ z1)).getD k 0) = true) := fun k h => by
    rcases List.mem_append.1 (mem_tid.1 (getD_mem h)).1 with p | p
    · exact .inl (List.contains_iff_mem.2 p)
    · exact .inr (List.contains_iff_mem.2 p)
  have ET : Hid (tid (tid z0) = tid z0) := tid_tid_eq z0
  have EJ : Hid (tid (tid (z0 ++ z1)) = tid (z0 ++ z1)) := tid_tid_eq _
  have EW : Hid (tid (wout (tid z0) a2) = wout (tid z0) a2) := tid_wout_eq _ _
  have HT8 : Hid ((tid z0).length * 8 ≤ 140737488351232) := tid8 z0
  have HJ8 : Hid ((tid (z0 ++ z1)).length * 8 ≤ 140737488351232) := tid8 _
  have HW8 : Hid ((wout (tid z0) a2).length * 8 ≤ 140737488351232) := wout8 _ _
  clear h2t h2j h2c h2d rd1 rd2 rn3 rn4 bl5 rd6 rd7 rn8 rn9 rn10 rn11 bl12 rd13 rd14 rd15 rn16 rn17 rn18 rn19 rn20 rn21 rn22 bl23 own1 own2 own6 own7 own13 own14 own15 bel1 bel2 bel6 bel7 bel13 bel14 bel15 r0 r1
  subst ht hj hc hd
  generalize tid z0 = T at *
  generalize tid (z0 ++ z1) = J at *
  generalize wout T a2 = Wl at *
  generalize w15 = W at *
  go_wp2
  go_loopg [10, 11] T.length (fun g l i wr => ∃ k : Nat, k + g = T.length ∧ i = .int .i64 k ∧ l = .int .i64 (lastI T k) ∧ wr = W)
  case atStart => exact ⟨0, by omega, rfl, rfl, rfl⟩
  case round =>
    obtain ⟨k, hk, rfl, rfl, hwr⟩ := hrel
    rw [hwr]
    clear hwr
    have HK : Hid (k + gk = T.length) := hk
    by_cases hlt : k < T.length
    · obtain ⟨bb, oo, e, hbb, hcell⟩ := H2t.out (by intro h; rw [h] at hlt; simp at hlt)
      have hck := hcell k hlt
      clear hcell
      subst e
      obtain ⟨q1, q2⟩ := L1.out k hlt
      have HW := within_any _ z0 (T.getD k 0) W RC.out
      rw [q2] at HW
      have HW2 : Hid (Calls Try.prog 17 #[.slice ac z0.length cc, .int .i64 (T.getD k 0)] W fun e w' => e = .returned (.bool true) ∧ w' = W) := HW
      have HI : Hid (Calls Try.prog 10 #[.int .i64 (T.getD k 0)] W fun e w' => e = .returned (.int .i64 (idx (T.getD k 0))) ∧ w' = W) := index_any _ _
      have HL : Hid (lastI T (k + 1) = idx (T.getD k 0)) := rfl
      have d1 : decide (idx (T.getD k 0) ≤ lastI T k) = false := decide_eq_false (by omega)
      clear hk HW q2
      generalize idx (T.getD k 0) = x at *
      generalize lastI T k = y at *
      generalize T.getD k 0 = z at *
      go_wp2_with fail
      refine HI.out.mono ?_
      rintro e wx ⟨rfl, hwx⟩
      rw [hwx]
      clear hwx wx
      go_wp2_with fail
      refine HW2.out.mono ?_
      rintro e wx ⟨rfl, hwx⟩
      rw [hwx]
      clear hwx wx
      go_wp2
      go_roundg (gk - 1)
      case measure => have := HK.out; omega
      case rel => exact ⟨k + 1, by have := HK.out; omega, by go_num, by rw [HL.out], rfl⟩
    · obtain rfl : k = T.length := by omega
      clear hk hlt
      go_wp2
      go_loopg [13] z0.length (fun g i wr => ∃ k : Nat, k + g = z0.length ∧ i = .int .i64 k ∧ wr = W)
      case atStart => exact ⟨0, by omega, rfl, rfl⟩
      case round =>
        obtain ⟨k2, hk, rfl, hwr⟩ := hrel
        rw [hwr]
        clear hwr
        have HK : Hid (k2 + gk = z0.length) := hk
        by_cases hlt : k2 < z0.length
        · obtain ⟨bb, oo, e, hbb, hcell⟩ := H2c.out (by intro h; rw [h] at hlt; simp at hlt)
          have hck := hcell k2 hlt
          clear hcell
          subst e
          obtain ⟨q1, q2, q3⟩ := L2.out k2 hlt
          have HA := within_any _ T (z0.getD k2 0) W RT.out
          have HB := within_any _ J (z0.getD k2 0) W RJ.out
          have HC := within_any _ Wl (z0.getD k2 0) W RW.out
          rw [q1] at HA
          rw [q2] at HB
          rw [q3] at HC
          have HA2 : Hid (Calls Try.prog 17 #[.slice at' T.length ct, .int .i64 (z0.getD k2 0)] W fun e w' => e = .returned (.bool (fmd (z0.getD k2 0))) ∧ w' = W) := HA
          have HB2 : Hid (Calls Try.prog 17 #[.slice aj J.length cj, .int .i64 (z0.getD k2 0)] W fun e w' => e = .returned (.bool (fmd (z0.getD k2 0))) ∧ w' = W) := HB
          have HC2 : Hid (Calls Try.prog 17 #[v7, .int .i64 (z0.getD k2 0)] W fun e w' => e = .returned (.bool (fmd (z0.getD k2 0) && (z0.getD k2 0 != a2))) ∧ w' = W) := HC
          have HF : Hid (Calls Try.prog 9 #[.int .i64 (z0.getD k2 0)] W fun e w' => e = .returned (.bool (fmd (z0.getD k2 0))) ∧ w' = W) := formed_any _ _
          clear hk HA HB HC q1 q2 q3
          generalize fmd (z0.getD k2 0) = f at *
          generalize z0.getD k2 0 = z at *
          cases f
          all_goals
            go_wp2_with fail
            refine HF.out.mono ?_
            rintro e wx ⟨rfl, hwx⟩
            rw [hwx]
            clear hwx wx
            go_wp2_with fail
            refine HA2.out.mono ?_
            rintro e wx ⟨rfl, hwx⟩
            rw [hwx]
            clear hwx wx
            go_wp2_with fail
            refine HB2.out.mono ?_
            rintro e wx ⟨rfl, hwx⟩
            rw [hwx]
            clear hwx wx
            go_wp2_with fail
            refine HC2.out.mono ?_
            rintro e wx ⟨rfl, hwx⟩
            rw [hwx]
            clear hwx wx
            go_wp2
            go_roundg (gk - 1)
            case measure => have := HK.out; omega
            case rel => exact ⟨k2 + 1, by have := HK.out; omega, by go_num, rfl⟩
        · obtain rfl : k2 = z0.length := by omega
          clear hk hlt
          go_wp2
          go_loopg [15] z1.length (fun g i wr => ∃ k : Nat, k + g = z1.length ∧ i = .int .i64 k ∧ Below W.heap.size W wr)
          case atStart => exact ⟨0, by omega, rfl, Below.refl _ _⟩
          case round =>
            obtain ⟨k3, hk, rfl, blr⟩ := hrel
            have HK : Hid (k3 + gk = z1.length) := hk
            by_cases hlt : k3 < z1.length
            · obtain ⟨bb, oo, e, hbb, hcell⟩ := H2d.out (by intro h; rw [h] at hlt; simp at hlt)
              have hck : wr.cell? ⟨bb, oo + k3, none⟩ = some (.int .i64 (z1.getD k3 0)) := cell_in hbb blr hcell hlt
              clear hcell
              subst e
              have q1 := L3.out k3 hlt
              have HA : Hid (∀ wv, Below W.heap.size W wv → Calls Try.prog 17 #[.slice aj J.length cj, .int .i64 (z1.getD k3 0)] wv fun e w' => e = .returned (.bool (fmd (z1.getD k3 0))) ∧ w' = wv) := fun wv hv => by
                have := within_any _ J (z1.getD k3 0) wv (RJ.out.below hv)
                rw [q1] at this
                exact this
              have HF : Hid (∀ wv, Calls Try.prog 9 #[.int .i64 (z1.getD k3 0)] wv fun e w' => e = .returned (.bool (fmd (z1.getD k3 0))) ∧ w' = wv) := fun wv => formed_any _ _
              have BB : Hid (Below W.heap.size W wr) := blr
              clear hk q1
              generalize fmd (z1.getD k3 0) = f at *
              generalize z1.getD k3 0 = z at *
              go_wp2
              go_quiet ((first | (go_at_call 17; exact Calls.quiet_of_same (HA.out _ (BB.out.trans ((below_drewN _ _).mono BB.out.size)))) | (go_at_call 9; exact Calls.quiet_of_same (HF.out _))))
              go_wp2
              go_roundg (gk - 1)
              case measure => have := HK.out; omega
              case rel => exact ⟨k3 + 1, by have := HK.out; omega, by go_num, blr.trans ((below_drewN _ _).mono blr.size)⟩
            · obtain rfl : k3 = z1.length := by omega
              clear hk hlt
              have WB : Hid (Below W.heap.size W wr) := blr
              have RT2 := RT.out.below blr
              have RW2 := RW.out.below blr
              have RJ2 := RJ.out.below blr
              have RC2 := RC.out.below blr
              have RD2 := RD.out.below blr
              have BL2 := Below.step BL.out blr
              have H2k : Hid (AddrOf wr aj J) := fun h => by
                obtain ⟨b, off, e, hb, hc⟩ := H2j.out h
                exact ⟨b, off, e, Nat.lt_of_lt_of_le hb blr.size, fun m hm => cell_in hb blr hc hm⟩
              have RT3 : Hid _ := RT2
              clear RT3
              have HRT : Hid (Rd wr (.slice at' T.length ct) T) := RT2
              have HRW : Hid (Rd wr v7 Wl) := RW2
              have HRJ : Hid (Rd wr (.slice aj J.length cj) J) := RJ2
              have HRC : Hid (Rd wr (.slice ac z0.length cc) z0) := RC2
              have HRD : Hid (Rd wr (.slice ad z1.length cd) z1) := RD2
              have HBL : Hid (Below w.heap.size w wr) := BL2
              clear RT2 RW2 RJ2 RC2 RD2 BL2 WB blr BL RT RW RJ RC RD
              generalize wr = wj at *
              go_wp2
              go_loopg [16] J.length (fun g i wr => ∃ k : Nat, k + g = J.length ∧ i = .int .i64 k ∧ wr = wj)
              case atStart => exact ⟨0, by omega, rfl, rfl⟩
              case round =>
                obtain ⟨k4, hk, rfl, hwr⟩ := hrel
                rw [hwr]
                clear hwr
                have HK : Hid (k4 + gk = J.length) := hk
                by_cases hlt : k4 < J.length
                · obtain ⟨bb, oo, e, hbb, hcell⟩ := H2k.out (by intro h; rw [h] at hlt; simp at hlt)
                  have hck := hcell k4 hlt
                  clear hcell
                  subst e
                  have q1 := L4.out k4 hlt
                  have HA : Hid (Calls Try.prog 17 #[.slice ac z0.length cc, .int .i64 (J.getD k4 0)] wj fun e w' => e = .returned (.bool (z0.contains (J.getD k4 0))) ∧ w' = wj) := within_any _ z0 _ _ HRC.out
                  have HB : Hid (Calls Try.prog 17 #[.slice ad z1.length cd, .int .i64 (J.getD k4 0)] wj fun e w' => e = .returned (.bool (z1.contains (J.getD k4 0))) ∧ w' = wj) := within_any _ z1 _ _ HRD.out
                  clear hk
                  generalize z0.contains (J.getD k4 0) = qa at *
                  generalize z1.contains (J.getD k4 0) = qb at *
                  generalize J.getD k4 0 = z at *
                  cases qa
                  · obtain rfl : qb = true := by rcases q1 with h | h; cases h; exact h
                    clear q1
                    go_wp2_with fail
                    refine HA.out.mono ?_
                    rintro e wx ⟨rfl, hwx⟩
                    rw [hwx]
                    clear hwx wx
                    go_wp2_with fail
                    refine HB.out.mono ?_
                    rintro e wx ⟨rfl, hwx⟩
                    rw [hwx]
                    clear hwx wx
                    go_wp2
                    go_roundg (gk - 1)
                    case measure => have := HK.out; omega
                    case rel => exact ⟨k4 + 1, by have := HK.out; omega, by go_num, rfl⟩
                  · clear q1
                    go_wp2_with fail
                    refine HA.out.mono ?_
                    rintro e wx ⟨rfl, hwx⟩
                    rw [hwx]
                    clear hwx wx
                    go_wp2
                    go_roundg (gk - 1)
                    case measure => have := HK.out; omega
                    case rel => exact ⟨k4 + 1, by have := HK.out; omega, by go_num, rfl⟩
                · obtain rfl : k4 = J.length := by omega
                  clear hk hlt
                  have rt := HRT.out
                  have rw' := HRW.out
                  have rj := HRJ.out
                  have b0 := HBL.out
                  go_wp2_with fail
                  refine (copied_any _ T wj (rt)).mono ?_
                  rintro e w41 ⟨v41, rfl, own41, bel41⟩
                  have rd41 := own41.rd ((rt).len)
                  go_wp2_with fail
                  refine (tidy_any _ T w41 (rd41)).mono ?_
                  rintro e w42 ⟨v42, rfl, own42, bel42⟩
                  have rd42 := own42.rd (tid8 _)
                  have rn43 := ((rt).below bel41).below bel42
                  have rn44 := ((rw').below bel41).below bel42
                  have rn45 := ((rj).below bel41).below bel42
                  have bl46 : Below w.heap.size w w42 := (Below.step (Below.step b0 bel41) bel42)
                  have o3 := own_three w42 3 (-1) 3
                  have b3 : Below (w42).heap.size w42 (w42.alloc (.cells #[.int .i64 3, .int .i64 (-1), .int .i64 3] 3)) := (Below.refl _ _).alloc (Nat.le_refl _) _
                  go_wp2_with fail
                  refine (tidy_any _ [3, -1, 3] (w42.alloc (.cells #[.int .i64 3, .int .i64 (-1), .int .i64 3] 3)) ((o3.rd (by simp)))).mono ?_
                  rintro e w47 ⟨v47, rfl, own47, bel47⟩
                  have rd47 := own47.rd (tid8 _)
                  have rn48 := ((rn43).below b3).below bel47
                  have rn49 := ((rn44).below b3).below bel47
                  have rn50 := ((rn45).below b3).below bel47
                  have rn51 := (((rd41).below bel42).below b3).below bel47
                  have rn52 := ((rd42).below b3).below bel47
                  have rn53 := ((o3.rd (by simp))).below bel47
                  have bl54 : Below w.heap.size w w47 := (Below.step (Below.step bl46 b3) bel47)
                  go_wp2_with fail
                  refine (same_self _ _ (tid T) T ET.out.symm w47 (rn52) (rn48)).mono ?_
                  rintro e w55 ⟨rfl, bel55⟩
                  have bl56 : Below w.heap.size w w55 := (Below.step bl54 bel55)
                  go_wp2_with fail
                  refine (copied_any _ T w55 ((rn48).below bel55)).mono ?_
                  rintro e w57 ⟨v57, rfl, own57, bel57⟩
                  have rd57 := own57.rd (((rn48).below bel55).len)
                  go_wp2_with fail
                  refine (join_any sortSaid compactSaid _ (.slice none 0 0) T [] w57 (rd57) (Rd.nil _)).mono ?_
                  rintro e w58 ⟨v58, rfl, own58, bel58⟩
                  have rd58 := own58.rd (tid8 _)
                  have rn59 := (((rn48).below bel55).below bel57).below bel58
                  have rn60 := (((rn49).below bel55).below bel57).below bel58
                  have rn61 := (((rn50).below bel55).below bel57).below bel58
                  have rn62 := (((rn51).below bel55).below bel57).below bel58
                  have rn63 := (((rn52).below bel55).below bel57).below bel58
                  have rn64 := (((rn53).below bel55).below bel57).below bel58
                  have rn65 := (((rd47).below bel55).below bel57).below bel58
                  have bl66 : Below w.heap.size w w58 := (Below.step (Below.step bl56 bel57) bel58)
                  go_wp2_with fail
                  refine (same_self _ _ (tid (T ++ [])) T (by rw [List.append_nil]; exact ET.out.symm) w58 (rd58) (rn59)).mono ?_
                  rintro e w67 ⟨rfl, bel67⟩
                  have rn68 := ((rd57).below bel58).below bel67
                  have bl69 : Below w.heap.size w w67 := (Below.step bl66 bel67)
                  go_wp2_with fail
                  refine (copied_any _ J w67 ((rn61).below bel67)).mono ?_
                  rintro e w70 ⟨v70, rfl, own70, bel70⟩
                  have rd70 := own70.rd (((rn61).below bel67).len)
                  go_wp2_with fail
                  refine (tidy_any _ J w70 (rd70)).mono ?_
                  rintro e w71 ⟨v71, rfl, own71, bel71⟩
                  have rd71 := own71.rd (tid8 _)
                  go_wp2_with fail
                  refine (same_self _ _ (tid J) J EJ.out.symm w71 (rd71) ((((rn61).below bel67).below bel70).below bel71)).mono ?_
                  rintro e w72 ⟨rfl, bel72⟩
                  have rn73 := ((((rn59).below bel67).below bel70).below bel71).below bel72
                  have rn74 := ((((rn60).below bel67).below bel70).below bel71).below bel72
                  have rn75 := ((((rn61).below bel67).below bel70).below bel71).below bel72
                  have rn76 := ((((rn62).below bel67).below bel70).below bel71).below bel72
                  have rn77 := ((((rn63).below bel67).below bel70).below bel71).below bel72
                  have rn78 := ((((rn64).below bel67).below bel70).below bel71).below bel72
                  have rn79 := ((((rn65).below bel67).below bel70).below bel71).below bel72
                  have rn80 := (((rn68).below bel70).below bel71).below bel72
                  have rn81 := ((((rd58).below bel67).below bel70).below bel71).below bel72
                  have rn82 := ((rd70).below bel71).below bel72
                  have bl83 : Below w.heap.size w w72 := (Below.step (Below.step (Below.step bl69 bel70) bel71) bel72)
                  go_wp2_with fail
                  refine (copied_any _ Wl w72 (rn74)).mono ?_
                  rintro e w84 ⟨v84, rfl, own84, bel84⟩
                  have rd84 := own84.rd ((rn74).len)
                  go_wp2_with fail
                  refine (tidy_any _ Wl w84 (rd84)).mono ?_
                  rintro e w85 ⟨v85, rfl, own85, bel85⟩
                  have rd85 := own85.rd (tid8 _)
                  go_wp2_with fail
                  refine (same_self _ _ (tid Wl) Wl EW.out.symm w85 (rd85) (((rn74).below bel84).below bel85)).mono ?_
                  rintro e w86 ⟨rfl, bel86⟩
                  have rn87 := (((rn73).below bel84).below bel85).below bel86
                  have rn88 := (((rn74).below bel84).below bel85).below bel86
                  have rn89 := (((rn75).below bel84).below bel85).below bel86
                  have rn90 := (((rn76).below bel84).below bel85).below bel86
                  have rn91 := (((rn77).below bel84).below bel85).below bel86
                  have rn92 := (((rn78).below bel84).below bel85).below bel86
                  have rn93 := (((rn79).below bel84).below bel85).below bel86
                  have rn94 := (((rn80).below bel84).below bel85).below bel86
                  have rn95 := (((rn81).below bel84).below bel85).below bel86
                  have rn96 := (((rn82).below bel84).below bel85).below bel86
                  have rn97 := ((((rd71).below bel72).below bel84).below bel85).below bel86
                  have rn98 := ((rd84).below bel85).below bel86
                  have bl99 : Below w.heap.size w w86 := (Below.step (Below.step (Below.step bl83 bel84) bel85) bel86)
                  have o2 := own_two w86 (-1) 3
                  have b2 : Below (w86).heap.size w86 (w86.alloc (.cells #[.int .i64 (-1), .int .i64 3] 3)) := (Below.refl _ _).alloc (Nat.le_refl _) _
                  go_wp2_with fail
                  refine (same_self _ _ (tid [3, -1, 3]) [-1, 3] tid_one3.symm (w86.alloc (.cells #[.int .i64 (-1), .int .i64 3] 3)) ((rn93).below b2) ((o2.rd (by simp)))).mono ?_
                  rintro e w100 ⟨rfl, bel100⟩
                  go_wp2
                  go_ret
                  exact ⟨by simp, (Below.step (Below.step bl99 b2) bel100)⟩

set_option maxRecDepth 100000 in
theorem lifted (os : Os) (started : os.Started) (H : Type) (enc : TypeId × Value → H) :
    ReturnsInHanded {} Try.checked os 4 .any (Rows.litsSetsSpec.pre6 enc Try.prog Try.f4 Rows.litsSetsRow.domain false) (Rows.litsSetsSpec.post enc Try.prog Try.f4 false true false false) := by
  refine returnsInHanded_of_change_sized (C := Try.checked) own started (by kernel_rfl) Try.func4
    (ChangeSpec.witness6 (enc := enc) (C := Try.checked) false ⟨#[], #[.slice none 0 0, .slice none 0 0, .int .i64 0], []⟩ 8 (by kernel_rfl) (by kernel_rfl) (by kernel_rfl) (by kernel_rfl)) ?_
  intro W base args ds gs before hval0 hW hcnd hsz0 _
  have hval : ∀ (j : Nat) t v, Try.f4.params[j]? = some t → args[j]? = some v → Value.okWide Try.prog W .any base t v := hval0
  have hsz : (DataW.weightsEach Try.prog (Try.f4.params.toList ++ Rows.litsSetsSpec.plain.varTypes Try.prog) (ds ++ gs)).all (· ≤ reachBytes) = true := hsz0
  have hW' := hW
  obtain ⟨p, q, hA0, hV, rfl, hfz, hnd⟩ := hW
  have hA : DataW.TrodAll enc Try.prog W 0 (fun _ => true) true Try.f4.params.toList args.toList ds p := hA0
  rw [Try.params4] at hA hval hsz
  obtain ⟨v0, vs0, d0, ds0, p0, q0, hargs, rfl, rfl, h0, r0⟩ := trodAll_cons hA
  obtain ⟨v1, vs1, d1, ds1, p1, q1, rfl, rfl, rfl, h1, r1⟩ := trodAll_cons r0
  obtain ⟨v2, vs2, d2, ds2, p2, q2, rfl, rfl, rfl, h2, r2⟩ := trodAll_cons r1
  obtain ⟨rfl, rfl, rfl⟩ := trodAll_nil r2
  obtain rfl : args = #[v0, v1, v2] := by cases args; simp_all
  obtain ⟨rfl, rfl⟩ := trodVars_none hV
  obtain ⟨a0, len0, cap0, rfl⟩ := okWide_slice Try.underlying25 (hval 0 25 v0 rfl rfl)
  have k0 := h0
  have lt0 : ∀ x ∈ p0, x.block < W.heap.size := by obtain ⟨m, hm⟩ := k0; exact DataW.trod_lt m _ _ _ hm
  obtain ⟨z0, w0⟩ : ∃ zs, Rd W (.slice a0 len0 cap0) zs := by
    obtain ⟨fuel, hf⟩ := h0
    rcases open_ints Try.underlying25 Try.underlying3 (by kernel_rfl) hf with ⟨hcs, _⟩ | ⟨x, l, c, zs, hcs, _, hl, hm, hz, hx, hcell, hwz⟩
    · simp [Value.cells] at hcs
      obtain ⟨rfl, rfl, rfl⟩ := hcs
      exact ⟨[], Rd.nil _⟩
    · simp [Value.cells] at hcs
      obtain ⟨rfl, rfl, rfl⟩ := hcs
      have hd := congrArg Prod.fst hx
      simp only at hd
      subst hd
      have hs := sized_slice hsz (j := 0) (t := 25) (e := 3) rfl rfl Try.underlying25
      exact ⟨_, Rd.opened hl hm (by simpa using hz) hs hcell⟩
  obtain ⟨a1, len1, cap1, rfl⟩ := okWide_slice Try.underlying25 (hval 1 25 v1 rfl rfl)
  have k1 := h1
  have lt1 : ∀ x ∈ p1, x.block < W.heap.size := by obtain ⟨m, hm⟩ := k1; exact DataW.trod_lt m _ _ _ hm
  obtain ⟨z1, w1⟩ : ∃ zs, Rd W (.slice a1 len1 cap1) zs := by
    obtain ⟨fuel, hf⟩ := h1
    rcases open_ints Try.underlying25 Try.underlying3 (by kernel_rfl) hf with ⟨hcs, _⟩ | ⟨x, l, c, zs, hcs, _, hl, hm, hz, hx, hcell, hwz⟩
    · simp [Value.cells] at hcs
      obtain ⟨rfl, rfl, rfl⟩ := hcs
      exact ⟨[], Rd.nil _⟩
    · simp [Value.cells] at hcs
      obtain ⟨rfl, rfl, rfl⟩ := hcs
      have hd := congrArg Prod.fst hx
      simp only at hd
      subst hd
      have hs := sized_slice hsz (j := 1) (t := 25) (e := 3) rfl rfl Try.underlying25
      exact ⟨_, Rd.opened hl hm (by simpa using hz) hs hcell⟩
  obtain ⟨a2, rfl, rfl, rfl, w2⟩ := open_int Try.underlying3 (hval 2 3 v2 rfl rfl) h2
  clear hA0 hval0 hsz0
  refine (walk _ _ a2 z0 z1 W w0 w1 w2).mono fun e W' ⟨he, bel⟩ => ?_
  subst he
  exact ⟨_, rfl, _, _, _, [], _, [], hW', trodAll_mk1 (shut_bool Try.underlying4 _), (trodAll_cons_mk (Below.trod laidOut (by kernel_rfl) (of_decide_eq_true (by kernel_rfl)) k0 bel lt0) (trodAll_cons_mk (Below.trod laidOut (by kernel_rfl) (of_decide_eq_true (by kernel_rfl)) k1 bel lt1) (trodAll_cons_mk (shut_int Try.underlying3 w2) trodAll_mk0))), rfl, bel.frame _, fun h => by cases h⟩

theorem over : Rows.litsSetsRow.holds Try.pinned (OpenSpec.ofChange Rows.litsSetsSpec) :=
  OpenClaim.holds_of_wide 4 Try.f4 rfl rfl rfl rfl rfl rfl rfl ⟨rfl, rfl, rfl, rfl, rfl⟩ rfl rfl rfl rfl rfl (by kernel_rfl) Try.func4 (by kernel_rfl)
    (of_decide_eq_true (by kernel_rfl)) (by unfold Func.isWrapper; first | (rw [if_pos (by decide +kernel)]; kernel_rfl) | (rw [if_neg (by decide +kernel)]; exact ⟨rfl, rfl⟩))
    (fun os started H enc _ => lifted os started H enc)

theorem proved : Rows.LitsSetsSaid := over
end Go.Proofs.Ythplkllphpnaoab.litsSets
