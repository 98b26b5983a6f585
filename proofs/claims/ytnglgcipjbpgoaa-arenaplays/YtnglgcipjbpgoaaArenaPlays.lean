/-
  ArenaPlays, walked.
  KEEP: set on app at below new trans refl start ap kept rd rds mono own row cells lt box lo ml ms c0 f0 form max find eq ma some none more map keep ps arStep docStep toldStep movedStep renote tys obj bel step swap walk mv c kill kst book
-/
import Derived.Test.YtnglgcipjbpgoaaAo2
set_option linter.unusedSimpArgs false
set_option linter.unusedVariables false
namespace Go.Proofs.Ytnglgcipjbpgoaa.arenaPlays
open Go Go.RowKit Go.Maps Go.Proofs.Ytnglgcipjbpgoaa

set_option maxRecDepth 100000 in
set_option maxHeartbeats 6400000 in
theorem walk (s : Value) (ops : List AOp) (w : World) (hr : RdO w s ops) (hN : cost ops ≤ 4194304) (hg : ∀ o ∈ ops, ∀ x ∈ o.lits, Rng x) :
    Calls Try.prog 3 #[s] w fun e w' => e = .returned (.bool true) ∧ Below w.heap.size w w' := by
  obtain ⟨sa, sc, rfl, hsc, hscm, hcells⟩ := hr
  unfold maxLen at hscm
  have HO : Hid (∀ (j : Nat) (hj : j < ops.length), ∃ b off u, sa = some ⟨b, off, none⟩ ∧ b < w.heap.size ∧
    w.cell? ⟨b, off + j * 5, none⟩ = some (.int .i64 ops[j].kind) ∧ w.cell? ⟨b, off + j * 5 + 1, none⟩ = some (.int .i64 ops[j].which) ∧ w.cell? ⟨b, off + j * 5 + 2, none⟩ = some (.int .i64 ops[j].ref) ∧
    w.cell? ⟨b, off + j * 5 + 3, none⟩ = some u ∧ w.cell? ⟨b, off + j * 5 + 4, none⟩ = some (.bool ops[j].learnt) ∧ Rd w u ops[j].lits ∧ (Lit.int .i64 ops[j].ref).wf = true) := hcells
  clear hcells
  go_enter Try.func3, Try.ntmps3
  go_wp2_with fail
  refine (made4_any w).mono ?_
  rintro e w1 ⟨a, b, m, n, rfl, g1, g2, g3, g4, l1, l2, l3, l4, e1, e2, bl⟩
  have HT0 : Hid (Tw w ((w1.alloc (.cells #[.pointer (some ⟨a, 0, none⟩), .pointer (some ⟨m, 0, none⟩), .slice none 0 0, .slice none 0 0] 28)).alloc (.cells #[.pointer (some ⟨b, 0, none⟩), .pointer (some ⟨n, 0, none⟩), .slice none 0 0, .slice none 0 0] 28)) w1.heap.size a m (w1.heap.size + 1) b n 0) := by
    have d1 := World.alloc_heap_new w1 (.cells #[.pointer (some ⟨a, 0, none⟩), .pointer (some ⟨m, 0, none⟩), .slice none 0 0, .slice none 0 0] 28)
    have d2 := World.alloc_heap_new (w1.alloc (.cells #[.pointer (some ⟨a, 0, none⟩), .pointer (some ⟨m, 0, none⟩), .slice none 0 0, .slice none 0 0] 28)) (.cells #[.pointer (some ⟨b, 0, none⟩), .pointer (some ⟨n, 0, none⟩), .slice none 0 0, .slice none 0 0] 28)
    rw [World.size_alloc] at d2
    have hs := bl.size
    exact Tw.new (at_on d1) (at_on (at_on g1)) (at_on (at_on g3)) d2 (at_on (at_on g2)) (at_on (at_on g4)) (by omega) e1 e2 hs l1 l3 (by omega) l2 l4 (Below.step (Below.step bl (below_box _ _)) (below_box _ _))
  clear g1 g2 g3 g4 l1 l2 l3 l4 e1 e2 bl
  go_wp2_with fail
  generalize ((w1.alloc (.cells #[.pointer (some ⟨a, 0, none⟩), .pointer (some ⟨m, 0, none⟩), .slice none 0 0, .slice none 0 0] 28)).alloc (.cells #[.pointer (some ⟨b, 0, none⟩), .pointer (some ⟨n, 0, none⟩), .slice none 0 0, .slice none 0 0] 28)) = W1 at *
  generalize w1.heap.size = D at *
  have HC : Hid (cost ops ≤ 4194304) := hN
  have HG : Hid (∀ o ∈ ops, ∀ x ∈ o.lits, Rng x) := hg
  clear hN hg
  go_loopg [6, 7, 8] ops.length (fun q i' r' t' wr => ∃ k : Nat, k + q = ops.length ∧ i' = .int .i64 k ∧ Hid (Tw w wr D a m (D + 1) b n (cost (ops.take k))))
  case atStart => exact ⟨0, by omega, rfl, HT0⟩
  case round =>
    obtain ⟨k, hk, rfl, HT⟩ := hrel
    have HK : Hid (k + gk = ops.length) := hk
    clear hk
    by_cases hlt : k < ops.length
    · obtain ⟨b0, off, u, hsa, hbl, k0, k1, k2, k3, k4, hrd, hwf⟩ := HO.out k hlt
      subst hsa
      have hcell : ∀ o, wr.cell? ⟨b0, o, none⟩ = w.cell? ⟨b0, o, none⟩ := fun o => HT.out.bel.cell (p := ⟨b0, o, none⟩) hbl
      rw [← hcell] at k0 k1 k2 k3 k4
      have hct := cost_take ops k hlt
      have hcl := cost_le ops (k + 1)
      have hck := HC.out
      have HLT : Hid (k < ops.length) := hlt
      have hN1 : cost (ops.take k) ≤ 1099511627776 := by omega
      have hce : cost (ops.take k) + (ops[k].lits.length + 1) = cost (ops.take (k + 1)) := by omega
      have HS1 : Hid (Calls Try.prog 7 #[.pointer (some ⟨D, 0, none⟩), .agg #[.int .i64 ops[k].kind, .int .i64 ops[k].which, .int .i64 ops[k].ref, u, .bool ops[k].learnt]] wr fun e w' => e = .returned (.bool true) ∧ Tw w w' D a m (D + 1) b n (cost (ops.take (k + 1)))) := by
        have h5 := tw_step HT.out hN1 ops[k] u (by omega) hrd (HG.out _ (List.getElem_mem hlt)) (wf_rng hwf)
        exact h5.mono fun e w' q => ⟨q.1, hce ▸ q.2⟩
      have HS2 : Hid (Calls Try.prog 7 #[.pointer (some ⟨D + 1, 0, none⟩), .agg #[.int .i64 ops[k].kind, .int .i64 ops[k].which, .int .i64 ops[k].ref, u, .bool ops[k].learnt]] wr fun e w' => e = .returned (.bool true) ∧ Tw w w' D a m (D + 1) b n (cost (ops.take (k + 1)))) := by
        have h5 := tw_step HT.out.swap hN1 ops[k] u (by omega) hrd (HG.out _ (List.getElem_mem hlt)) (wf_rng hwf)
        exact h5.mono fun e w' q => ⟨q.1, hce ▸ q.2.swap⟩
      clear hct hcl hck hN1 hce hrd hwf hcell
      generalize ops[k].kind = x0 at *
      generalize ops[k].which = x1 at *
      generalize ops[k].ref = x2 at *
      generalize ops[k].learnt = x4 at *
      by_cases hev : x1.tmod 2 = 0
      · have hb1 : (x1.tmod 2 == 0) = true := beq_iff_eq.2 hev
        have hb2 : (x1.tmod 2 != 0) = false := by simp [hev]
        go_wp2_with fail
        refine HS1.out.mono ?_
        rintro e w2 ⟨rfl, tw2⟩
        have HT2 : Hid (Tw w w2 D a m (D + 1) b n (cost (ops.take (k + 1)))) := tw2
        clear tw2
        go_wp2
        go_roundg (gk - 1)
        case measure => have := HK.out; have := HLT.out; omega
        case rel => exact ⟨k + 1, by have := HK.out; have := HLT.out; omega, by go_num, HT2⟩
      · have hb1 : (x1.tmod 2 == 0) = false := beq_eq_false_iff_ne.2 hev
        have hb2 : (x1.tmod 2 != 0) = true := by simp [hev]
        go_wp2_with fail
        refine HS2.out.mono ?_
        rintro e w2 ⟨rfl, tw2⟩
        have HT2 : Hid (Tw w w2 D a m (D + 1) b n (cost (ops.take (k + 1)))) := tw2
        clear tw2
        go_wp2
        go_roundg (gk - 1)
        case measure => have := HK.out; have := HLT.out; omega
        case rel => exact ⟨k + 1, by have := HK.out; have := HLT.out; omega, by go_num, HT2⟩
    · obtain rfl : k = ops.length := by have := HK.out; omega
      rw [List.take_length] at HT
      obtain ⟨F1, v1, S1, rv1, L1, tv1, mv1, T1, F2, v2, S2, rv2, L2, tv2, mv2, T2, p1, p2, hd, f1, f2, n1, n2, n3, n4, n5, n6, hb⟩ := HT.out
      obtain ⟨ta, tc, htv⟩ := row_form p1.tr
      subst htv
      have c2 := p1.cells.2.2.1
      have hck := HC.out
      have HP : Hid (Pr4 F1 wr D a v1 S1 m rv1 L1 (.slice ta T1.length tc) mv1 T1) := p1
      have hTl : T1.length ≤ 4194304 := by omega
      clear p1 p2 hd f1 f2 n1 n2 n3 n4 n5 n6 hlt
      go_wp2
      go_loopg [9, 10] T1.length (fun q i' r' wz => ∃ j : Nat, j + q = T1.length ∧ i' = .int .i64 j ∧ wz = wr)
      case atStart => exact ⟨0, by omega, rfl, rfl⟩
      case round =>
        obtain ⟨j, hj, rfl, ew⟩ := hrel
        have ew := ew.symm
        subst ew
        obtain ⟨gj, hgj⟩ : ∃ gj, gj = gk := ⟨_, rfl⟩
        have HJ : Hid (j + gj = T1.length) := by rw [hgj]; exact hj
        clear hj
        by_cases hjl : j < T1.length
        · have HJL : Hid (j < T1.length) := hjl
          go_wp2
          go_loopg [10] 151 (fun q r' wy => ∃ i : Nat, i + q = 151 ∧ r' = .int .i64 ((i : Int) - 1) ∧ wy = wr)
          case atStart => exact ⟨0, by omega, rfl, rfl⟩
          case round =>
            obtain ⟨i, hi, rfl, ew⟩ := hrel
            have ew := ew.symm
            subst ew
            have HI : Hid (i + gk = 151) := hi
            clear hi
            by_cases hil : i < 151
            · have HA : Hid (Calls Try.prog 8 #[.pointer (some ⟨D, 0, none⟩), .int .i64 (j : Int), .int .i64 ((i : Int) - 1)] wr fun e w' => e = .returned (.bool true) ∧ w' = wr) := asked4_any F1 D a v1 S1 m rv1 L1 (.slice ta T1.length tc) mv1 T1 j ((i : Int) - 1) wr HP.out HJL.out (by omega) (by omega) (by omega)
              have HIL : Hid (i < 151) := hil
              go_wp2_with fail
              refine HA.out.mono ?_
              rintro e w2 ⟨rfl, ew⟩
              have ew := ew.symm
              subst ew
              go_wp2
              go_roundg (gk - 1)
              case measure => have := HI.out; have := HIL.out; omega
              case rel => exact ⟨i + 1, by have := HI.out; have := HIL.out; omega, by go_num, rfl⟩
            · obtain rfl : i = 151 := by have := HI.out; omega
              clear hil
              go_wp2
              go_roundg (gj - 1)
              case measure => have := HJ.out; have := HJL.out; omega
              case rel => exact ⟨j + 1, by have := HJ.out; have := HJL.out; omega, by go_num, rfl⟩
        · obtain rfl : j = T1.length := by have := HJ.out; omega
          clear hjl
          have HE1 : Hid (Calls Try.prog 7 #[.pointer (some ⟨D, 0, none⟩), .agg #[.int .i64 1, .int .i64 0, .int .i64 0, .slice (some ⟨wr.heap.size, 0, none⟩) 2 2, .bool false]] (wr.alloc (.cells #[.int .i64 4, .int .i64 (-4)] 3)) fun e w' => e = .returned (.bool true) ∧ Tw w w' D a m (D + 1) b n (cost ops + 3)) := tw_own HT.out (below_box _ _) (by omega) ⟨1, 0, 0, [4, -4], false⟩ (.slice (some ⟨wr.heap.size, 0, none⟩) 2 2) (by simp) (rd_two4 wr 4 (-4)) (fun g hg => by simp [Value.ownBlock] at hg; subst hg; simp) (by intro x hx; simp at hx; rcases hx with rfl | rfl <;> exact ⟨by omega, by omega⟩) ⟨by simp, by simp⟩
          go_wp2_with fail
          refine HE1.out.mono ?_
          rintro e w3 ⟨rfl, tw3⟩
          have HE2 : Hid (Calls Try.prog 7 #[.pointer (some ⟨D, 0, none⟩), .agg #[.int .i64 5, .int .i64 0, .int .i64 0, .slice none 0 0, .bool false]] w3 fun e w' => e = .returned (.bool true) ∧ Tw w w' D a m (D + 1) b n (cost ops + 3 + 1)) := tw_own tw3 (Below.refl _ _) (by omega) ⟨5, 0, 0, [], false⟩ (.slice none 0 0) (by simp) (Rd.nil _) (fun g hg => by simp [Value.ownBlock] at hg) (by intro x hx; simp at hx) ⟨by simp, by simp⟩
          clear tw3
          go_wp2_with fail
          refine HE2.out.mono ?_
          rintro e w4 ⟨rfl, tw4⟩
          have HB : Hid (Below w.heap.size w w4) := tw4.bel
          clear tw4
          go_wp2
          go_ret
          exact ⟨rfl, HB.out⟩
end Go.Proofs.Ytnglgcipjbpgoaa.arenaPlays
