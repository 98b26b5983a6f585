/-
  depotlaw04: plays: a Sweep's function is asked.
  KEEP: set on app at below new trans refl start ap kept rd rds mono own row cells lt box lo ml ms c0 f0 form max find eq ma some none more map keep
-/
import Derived.Test.YtnglgcipjbpgoaaAn1
set_option linter.unusedSimpArgs false
set_option linter.unusedVariables false
namespace Go.Proofs.Ytnglgcipjbpgoaa
open Go Go.RowKit Go.Maps

set_option maxRecDepth 100000 in
set_option maxHeartbeats 1600000 in
theorem plays7_any (F : Nat → Prop) (D b m : Nat) (v rv tv mv : Value) (S : List Seg) (L : List Mt) (T : List Te) (r : Int) (zs : List Int) (q1 q3 q4 : Value) (w : World) (h : Pr4 F w D b v S m rv L tv mv T) (hz : Rd w q3 zs) (hi : ∀ x ∈ zs, -9223372036854775808 ≤ x ∧ x ≤ 9223372036854775807) (hr : r ≤ 9223372036854775807) (hT : T.length ≤ 1099511627776) :
    Calls Try.prog 7 #[.pointer (some ⟨D, 0, none⟩), .agg #[.int .i64 7, q1, .int .i64 r, q3, q4]] w fun e w' => Pl4 F D b m S L T 0 w e w' := by
  have hzl := hz.len
  obtain ⟨za, zc, rfl, hzc, hzm, hcell⟩ := hz.form
  have HP : Hid (∀ W, Below w.heap.size w W → Pr4 F W D b v S m rv L tv mv T) := fun W hW => h.below hW
  have hb0 := below_box w (.cells #[.int .i64 7, q1, .int .i64 r, .slice za zs.length zc, q4] 34)
  have HB0 : Hid (Below w.heap.size w (w.alloc (.cells #[.int .i64 7, q1, .int .i64 r, .slice za zs.length zc, q4] 34))) := hb0
  obtain ⟨ta, tc, htv⟩ : ∃ ta tc, tv = .slice ta T.length tc := row_form h.tr
  subst htv
  have HC : Hid (∀ W, Below (w.alloc (.cells #[.int .i64 7, q1, .int .i64 r, .slice za zs.length zc, q4] 34)).heap.size (w.alloc (.cells #[.int .i64 7, q1, .int .i64 r, .slice za zs.length zc, q4] 34)) W → W.cell? ⟨w.heap.size, 0, none⟩ = some (.int .i64 7) ∧ W.cell? ⟨w.heap.size, 2, none⟩ = some (.int .i64 r) ∧ W.cell? ⟨w.heap.size, 3, none⟩ = some (.slice za zs.length zc) ∧ W.cell? ⟨D, 2, none⟩ = some (.slice ta T.length tc)) := fun W hW => by
    have h1 := op_cells w (.int .i64 7) q1 (.int .i64 r) (.slice za zs.length zc) q4 34 hW
    have h2 := (h.below (Below.step hb0 hW)).cells
    exact ⟨h1.1, h1.2.2.1, h1.2.2.2.1, h2.2.2.1⟩
  have HZ : Hid (∀ W, Below w.heap.size w W → ∀ k, k < zs.length → ∃ g off, za = some ⟨g, off, none⟩ ∧ W.cell? ⟨g, off + k, none⟩ = some (.int .i64 (zs.getD k 0))) := fun W hW k hk => by
    obtain ⟨g, off, e, hce⟩ := hcell k hk
    exact ⟨g, off, e, (hW.cell (p := ⟨g, off + k, none⟩) (World.block_lt_of_cell? w _ hce)).trans hce⟩
  have HI : Hid (∀ k, k < zs.length → -9223372036854775808 ≤ zs.getD k 0 ∧ zs.getD k 0 ≤ 9223372036854775807) := fun k hk => hi _ (by rw [List.getD_eq_getElem?_getD, List.getElem?_eq_getElem hk]; exact List.getElem_mem hk)
  obtain ⟨k0, k2, k3, c2⟩ := HC.out _ (Below.refl _ _)
  have HF : Hid (∀ W, Below w.heap.size w W → Pl4 F D b m S L T 0 w (.returned (.bool true)) W) := fun W hW => ⟨F, v, S, rv, L, _, mv, T, rfl, h.below hW, Ps4.of_below hW, Nat.le_refl _, Nat.le_succ _, Nat.le_succ _⟩
  have HAs : Hid (∀ W (k : Nat) x, Below w.heap.size w W → k < T.length → -9223372036854775808 ≤ x → x ≤ 9223372036854775807 → Calls Try.prog 8 #[.pointer (some ⟨D, 0, none⟩), .int .i64 k, .int .i64 x] W fun e w' => e = .returned (.bool true) ∧ w' = W) := fun W k x hW hk h1 h2 => asked4_any F D b v S m rv L _ mv T k x W (h.below hW) hk h1 h2 hT
  clear h hb0 hz hcell hi
  by_cases hneg : r < 0
  · go_enter Try.func7, Try.ntmps7
    go_wp2
    go_ret
    exact HF.out _ HB0.out
  · by_cases hT0 : T.length = 0
    · have hT1 : ((T.length : Int) == 0) = true := by rw [hT0]; rfl
      go_enter Try.func7, Try.ntmps7
      go_wp2
      go_ret
      exact HF.out _ HB0.out
    · have hT1 : ((T.length : Int) == 0) = false := beq_eq_false_iff_ne.2 (by omega)
      obtain ⟨kk, hkk⟩ : ∃ kk : Nat, r.tmod (T.length : Int) = (kk : Int) := ⟨(r.tmod (T.length : Int)).toNat, (Int.toNat_of_nonneg (Int.tmod_nonneg _ (by omega))).symm⟩
      have hkT : kk < T.length := by
        have := Int.tmod_lt_of_pos r (show (0 : Int) < (T.length : Int) by omega)
        rw [hkk] at this; omega
      have HkT : Hid (kk < T.length) := hkT
      go_enter Try.func7, Try.ntmps7
      go_wp2
      generalize w.alloc (.cells #[.int .i64 7, q1, .int .i64 r, .slice za zs.length zc, q4] 34) = W0 at *
      clear k0 k2 k3 c2
      go_loopg [18] zs.length (fun q i' wr => ∃ k : Nat, k + q = zs.length ∧ i' = .int .i64 k ∧ Below W0.heap.size W0 wr)
      case atStart => exact ⟨0, by omega, rfl, Below.refl _ _⟩
      case round =>
        obtain ⟨k, hk, rfl, hbw⟩ := hrel
        have HK : Hid (k + gk = zs.length) := hk
        have HBw : Hid (Below W0.heap.size W0 wr) := hbw
        obtain ⟨k0, k2, k3, c2⟩ := HC.out _ hbw
        clear hk hbw
        by_cases hlt : k < zs.length
        · obtain ⟨g, off, hza, hce⟩ := HZ.out wr (Below.step HB0.out HBw.out) k hlt
          subst hza
          have hix := HI.out k hlt
          have HIx : Hid (-9223372036854775808 ≤ zs.getD k 0 ∧ zs.getD k 0 ≤ 9223372036854775807) := hix
          have HLT : Hid (k < zs.length) := hlt
          clear hix
          generalize zs.getD k 0 = x at *
          have HA1 : Hid (∀ n, Calls Try.prog 8 #[.pointer (some ⟨D, 0, none⟩), .int .i64 kk, .int .i64 x] (wr.drewN n) fun e w' => e = .returned (.bool true) ∧ w' = wr.drewN n) := fun n => HAs.out _ kk x (Below.step (Below.step HB0.out HBw.out) (below_drewN _ _)) HkT.out HIx.out.1 HIx.out.2
          go_upto_region 32 with fail
          go_quiet ((go_at_call 8; exact Calls.quiet_of_same (HA1.out _)))
          have HB1 : Hid (Below W0.heap.size W0 (wr.drewN nq)) := Below.step HBw.out (below_drewN _ _)
          clear k0 k2 k3 c2 hce
          go_wp2
          go_roundg (gk - 1)
          case measure => have := HK.out; have := HLT.out; omega
          case rel => exact ⟨k + 1, by have := HK.out; have := HLT.out; omega, by go_num, HB1.out⟩
        · go_wp2
          go_ret
          exact HF.out _ (Below.step HB0.out HBw.out)
end Go.Proofs.Ytnglgcipjbpgoaa
