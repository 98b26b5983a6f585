/-
  heat: New.
  KEEP: set on app at below new trans refl start kept mono lt add none own nil put len pos other cell ty blt fz box k p r pr a0 a1 a2 c0 c1 c2 hb setK setP setR unique grown step fin bij up q1 q2 pl held mk v1 v2 t1 t2 hs few cut root z kl nl sl d1 d2 row down has holds stp
-/
import Derived.Test.YtbfjhgiifmhccaaHtI
import Derived.Deep.OwnRows
set_option linter.unusedSimpArgs false
set_option linter.unusedVariables false
namespace Go.Proofs.Ytbfjhgiifmhccaa
open Go Go.RowKit
attribute [local go_sem] run_store_float

theorem infoF14 : (Try.prog.info? 23).map (fun i => (i.zero, i.size, i.bytes)) = some (some (.float .f64 0), 1, 8) := by kernel_rfl
def NewR (w1 : World) (N : Nat) (p : Value) (wx : World) : Prop := ∃ b kv pv rv, p = .pointer (some ⟨b, 0, none⟩) ∧ Hz w1.heap.size wx b ⟨#[kv, pv, rv], 67, 0, kv, pv, rv⟩ (List.replicate N 0) (List.replicate N 0) (List.replicate N 0) ∧ Below w1.heap.size w1 wx
theorem made14 (z : Value) (m : Nat) : (madeCells #[z] m).toList = List.replicate m z := by
  refine List.ext_getElem (by simp [size_madeCells]) fun i h1 h2 => ?_
  simp [madeCells, Nat.mod_one]
theorem row14 {W : World} {B g N : Nat} {e : TypeId} {z : Value} (h : W.heap[g]? = some (.cells (madeCells #[z] N) e (0, 0))) (hB : B ≤ g) (hN : N ≤ maxLen) : W.ownsRow B e 1 (.slice (some ⟨g, 0, none⟩) N N) N (List.replicate N z) :=
  ⟨by simp, .inr ⟨g, N, _, rfl, hB, h, Nat.le_refl _, hN, by simp [size_madeCells], by rw [made14]; simp⟩⟩
theorem newR_of {w1 W : World} {N kb pb rb bb : Nat} (h4 : W.heap[bb]? = some (.cells #[.slice (some ⟨kb, 0, none⟩) N N, .slice (some ⟨pb, 0, none⟩) N N, .slice (some ⟨rb, 0, none⟩) N N] 67 (0, 0)))
    (h1 : W.heap[kb]? = some (.cells (madeCells #[.float .f64 0] N) 23 (0, 0))) (h2 : W.heap[pb]? = some (.cells (madeCells #[.int .i32 0] N) 21 (0, 0))) (h3 : W.heap[rb]? = some (.cells (madeCells #[.int .i32 0] N) 21 (0, 0)))
    (hN : N ≤ 1048577) (hg : w1.heap.size ≤ bb ∧ w1.heap.size ≤ kb ∧ w1.heap.size ≤ pb ∧ w1.heap.size ≤ rb ∧ pb ≠ rb) (hbel : Below w1.heap.size w1 W) : NewR w1 N (.pointer (some ⟨bb, 0, none⟩)) W := by
  have hm : N ≤ maxLen := by unfold maxLen; omega
  refine ⟨bb, _, _, _, rfl, ⟨h4, hg.1, rfl, rfl, rfl, ?_, ?_, ?_, ?_, (show (67 : TypeId) ≠ 23 by decide), (show (67 : TypeId) ≠ 21 by decide)⟩, hbel⟩
  · have := row14 h1 hg.2.1 hm
    simpa [f64s] using this
  · have := row14 h2 hg.2.2.1 hm
    simpa [i32n] using this
  · have := row14 h3 hg.2.2.2.1 hm
    simpa [i32n] using this
  · intro g e1 e2
    have a : g = pb := by simpa [Value.ownBlock] using e1
    have c : g = rb := by simpa [Value.ownBlock] using e2
    omega
theorem heap4 (w1 : World) (a b c d : Obj) : ((((w1.alloc a).alloc b).alloc c).alloc d).drew.heap[w1.heap.size]? = some a ∧ ((((w1.alloc a).alloc b).alloc c).alloc d).drew.heap[w1.heap.size + 1]? = some b ∧ ((((w1.alloc a).alloc b).alloc c).alloc d).drew.heap[w1.heap.size + 1 + 1]? = some c ∧ ((((w1.alloc a).alloc b).alloc c).alloc d).drew.heap[w1.heap.size + 1 + 1 + 1]? = some d ∧ Below w1.heap.size w1 ((((w1.alloc a).alloc b).alloc c).alloc d).drew := by
  have s1 : (w1.alloc a).heap.size = w1.heap.size + 1 := World.size_alloc ..
  have s2 : ((w1.alloc a).alloc b).heap.size = w1.heap.size + 1 + 1 := by rw [World.size_alloc, s1]
  have s3 : (((w1.alloc a).alloc b).alloc c).heap.size = w1.heap.size + 1 + 1 + 1 := by rw [World.size_alloc, s2]
  have b1 := below_box w1 a
  have b2 := below_box (w1.alloc a) b
  have b3 := below_box ((w1.alloc a).alloc b) c
  have b4 := below_box (((w1.alloc a).alloc b).alloc c) d
  have hd : Below ((((w1.alloc a).alloc b).alloc c).alloc d).heap.size ((((w1.alloc a).alloc b).alloc c).alloc d) ((((w1.alloc a).alloc b).alloc c).alloc d).drew := (Below.refl _ _).drew
  refine ⟨?_, ?_, ?_, ?_, Below.step (Below.step (Below.step (Below.step b1 b2) b3) b4) hd⟩
  · exact (hd.block _ (by rw [World.size_alloc, s3]; omega)).trans ((b4.block _ (by rw [s3]; omega)).trans ((b3.block _ (by rw [s2]; omega)).trans ((b2.block _ (by rw [s1]; omega)).trans (World.alloc_heap_new w1 a))))
  · have := World.alloc_heap_new (w1.alloc a) b
    rw [s1] at this
    exact (hd.block _ (by rw [World.size_alloc, s3]; omega)).trans ((b4.block _ (by rw [s3]; omega)).trans ((b3.block _ (by rw [s2]; omega)).trans this))
  · have := World.alloc_heap_new ((w1.alloc a).alloc b) c
    rw [s2] at this
    exact (hd.block _ (by rw [World.size_alloc, s3]; omega)).trans ((b4.block _ (by rw [s3]; omega)).trans this)
  · have := World.alloc_heap_new (((w1.alloc a).alloc b).alloc c) d
    rw [s3] at this
    exact (hd.block _ (by rw [World.size_alloc, s3]; omega)).trans this
/-- what full leaves -/
structure FulS (w w' : World) (n : Nat) (kv pv rv : Value) : Prop where
  bel : Below w.heap.size w w'
  k : w'.ownsRow w.heap.size 23 1 kv (n + 1) (f64s (List.replicate (n + 1) 0))
  p : w'.ownsRow w.heap.size 21 1 pv (n + 1) (i32n (List.range (n + 1)))
  r : w'.ownsRow w.heap.size 21 1 rv (n + 1) (i32n (List.range (n + 1)))
  pr : ∀ g, some g = pv.ownBlock → some g ≠ rv.ownBlock
/-- so many laid -/
def rgs (N k : Nat) : List Nat := List.range k ++ List.replicate (N - k) 0
theorem rgs_len {N k : Nat} (h : k ≤ N) : (rgs N k).length = N := by simp [rgs]; omega
theorem rgs_zero (N : Nat) : rgs N 0 = List.replicate N 0 := by simp [rgs]
theorem rgs_all (N : Nat) : rgs N N = List.range N := by simp [rgs]
theorem rgs_set {N k : Nat} (h : k < N) : (rgs N k).set k k = rgs N (k + 1) := by
  unfold rgs
  obtain ⟨m, hm⟩ : ∃ m, N - k = m + 1 := ⟨N - k - 1, by omega⟩
  rw [hm, show N - (k + 1) = m by omega, List.set_append_right (h := by simp), List.length_range, Nat.sub_self, List.replicate_succ, List.set_cons_zero, List.range_succ, List.append_assoc]
  rfl
set_option maxHeartbeats 4000000 in
theorem full_any (n : Nat) (w : World) (hn : n ≤ 1048576) :
    Calls Try.prog 27 #[.int .i64 (n : Int)] w fun e w' => ∃ kv pv rv, e = .returned (.agg #[kv, pv, rv]) ∧ FulS w w' n kv pv rv := by
  obtain ⟨N, hN⟩ : ∃ N : Nat, n + 1 = N := ⟨_, rfl⟩
  have HN : Hid (n + 1 = N) := hN
  have hNi : (n : Int) + 1 = (N : Int) := by omega
  have hN2 : N ≤ 1048577 := by omega
  have hmkF := run_make_row' (P := Try.prog) 64 23 (.float .f64 0) 8 Try.underlying64 infoF14 rfl .i64 .i64 N (by omega) (by omega)
  have hmkI := run_make_row' (P := Try.prog) 65 21 (.int .i32 0) 4 Try.underlying65 Try.info21 rfl .i64 .i64 N (by omega) (by omega)
  have hwN : IntKind.i64.wrap (N : Int) = (N : Int) := by rw [IntKind.wrap_i64]; omega
  have HB0 : Hid (Below w.heap.size w (w.alloc (.cells #[.slice none 0 0, .slice none 0 0, .slice none 0 0] 67))) := below_box _ _
  have HX0 : Hid ((w.alloc (.cells #[.slice none 0 0, .slice none 0 0, .slice none 0 0] 67)).heap[w.heap.size]? = some (.cells #[.slice none 0 0, .slice none 0 0, .slice none 0 0] 67 (0, 0)) ∧ w.heap.size < (w.alloc (.cells #[.slice none 0 0, .slice none 0 0, .slice none 0 0] 67)).heap.size) := ⟨World.alloc_heap_new w _, by rw [World.size_alloc]; omega⟩
  clear hN hn
  go_enter Try.func27, Try.ntmps27
  go_upto_region 1 with fail
  generalize w.alloc (.cells #[.slice none 0 0, .slice none 0 0, .slice none 0 0] 67) = w1 at *
  go_cut [3, 14] from 5 to 14 (fun p q wx => NewR w1 N p wx)
  case first =>
    go_region_law fail
    all_goals
      go_wp2_with fail
      go_meet
    all_goals
      refine newR_of (by first | exact (heap4 _ _ _ _ _).1 | exact (heap4 _ _ _ _ _).2.1 | exact (heap4 _ _ _ _ _).2.2.1 | exact (heap4 _ _ _ _ _).2.2.2.1) (by first | exact (heap4 _ _ _ _ _).1 | exact (heap4 _ _ _ _ _).2.1 | exact (heap4 _ _ _ _ _).2.2.1 | exact (heap4 _ _ _ _ _).2.2.2.1) (by first | exact (heap4 _ _ _ _ _).1 | exact (heap4 _ _ _ _ _).2.1 | exact (heap4 _ _ _ _ _).2.2.1 | exact (heap4 _ _ _ _ _).2.2.2.1) (by first | exact (heap4 _ _ _ _ _).1 | exact (heap4 _ _ _ _ _).2.1 | exact (heap4 _ _ _ _ _).2.2.1 | exact (heap4 _ _ _ _ _).2.2.2.1) hN2 (by omega) (heap4 _ _ _ _ _).2.2.2.2
  case rest =>
    obtain ⟨b, kv, pv, rv, rfl, hz, hbel⟩ := hcut
    have HZ : Hid (Hz w1.heap.size wc b ⟨#[kv, pv, rv], 67, 0, kv, pv, rv⟩ (List.replicate N 0) (rgs N 0) (rgs N 0)) := by rw [rgs_zero]; exact hz
    have HBel : Hid (Below w1.heap.size w1 wc) := hbel
    have HXc : Hid (wc.heap[w.heap.size]? = some (.cells #[.slice none 0 0, .slice none 0 0, .slice none 0 0] 67 (0, 0))) := (hbel.block _ HX0.out.2).trans HX0.out.1
    have hNp : 1 ≤ N := by have := HN.out; omega
    obtain ⟨gR, cR, eR, -, -, -⟩ := row_some hz.r (by simp; omega)
    have c2 : wc.cell? ⟨b, 2, none⟩ = some rv := hz.c2
    have eR' : rv = .slice (some ⟨gR, 0, none⟩) N cR := by have := eR; simpa using this
    rw [eR'] at c2
    have HER : Hid (rv = .slice (some ⟨gR, 0, none⟩) N cR) := eR'
    have HM0 : Hid (Below w1.heap.size w1 wc) := hbel
    clear hz hbel hmkF hmkI eR eR' hNi hwN
    go_wp2
    go_loopg [18] N (fun g x wx => ∃ k : Nat, k + g = N ∧ x = .int .i64 (k : Int) ∧ Hid (Hz w1.heap.size wx b ⟨#[kv, pv, rv], 67, 0, kv, pv, rv⟩ (List.replicate N 0) (rgs N k) (rgs N k)) ∧ Hid (Below w1.heap.size w1 wx))
    case atStart => exact ⟨0, by omega, rfl, HZ, HBel⟩
    case round =>
      obtain ⟨k, hk, rfl, H1, H2⟩ := hrel
      clear HZ HBel HXc c2 HM0
      by_cases hlt : k < N
      · have HL : Hid (Calls Try.prog 43 #[.pointer (some ⟨b, 0, none⟩), .int .i32 (k : Int), .int .i32 (k : Int)] wr fun e w' => e = .returned (.tuple #[]) ∧ Hz w1.heap.size w' b ⟨#[kv, pv, rv], 67, 0, kv, pv, rv⟩ (List.replicate N 0) (rgs N (k + 1)) (rgs N (k + 1)) ∧ Below w1.heap.size w1 w') := by
          refine (lay_any k k wr H1.out (by rw [rgs_len (by omega)]; exact hlt) (by rw [rgs_len (by omega)]; exact hlt) (by rw [rgs_len (by omega)]; omega) (by rw [rgs_len (by omega)]; omega)).mono fun e w' h => ⟨h.1, ?_, Mf.bel H2.out (fun i hi => (H1.out.lt i hi).1) h.2.2⟩
          have := h.2.1
          rw [rgs_set hlt] at this
          exact this
        have hwk := wr32m (z := k) (by omega)
        have hgk : N - (k + 1) < gk := by omega
        have HKN : Hid (k + 1 + (N - (k + 1)) = N) := by show _ = _; omega
        clear H1 H2
        go_wp2_with (go_at_call 43; refine HL.out.mono ?_; rintro e w' ⟨rfl, hl⟩; have HLL : Hid _ := hl; clear hl)
        go_roundg (N - (k + 1))
        case rel => exact ⟨k + 1, HKN.out, by simp, HLL.out.1, HLL.out.2⟩
        case measure => exact hgk
      · have hke : k = N := by omega
        subst hke
        have hz := H1.out
        have c0 : wr.cell? ⟨b, 0, none⟩ = some kv := hz.c0
        have c1 : wr.cell? ⟨b, 1, none⟩ = some pv := hz.c1
        have c2 : wr.cell? ⟨b, 2, none⟩ = some rv := hz.c2
        have HXr : Hid (wr.heap[w.heap.size]? = some (.cells #[.slice none 0 0, .slice none 0 0, .slice none 0 0] 67 (0, 0))) := (H2.out.block _ HX0.out.2).trans HX0.out.1
        have d0 : wr.cell? ⟨w.heap.size, 0, none⟩ = some (.slice none 0 0) := by simp [World.cell?, HXr.out]
        have d1 : wr.cell? ⟨w.heap.size, 1, none⟩ = some (.slice none 0 0) := by simp [World.cell?, HXr.out]
        have d2 : wr.cell? ⟨w.heap.size, 2, none⟩ = some (.slice none 0 0) := by simp [World.cell?, HXr.out]
        have z0 : wr.frozen? ⟨w.heap.size, 0, none⟩ = false := by simp [World.frozen?, HXr.out]
        have z1 : wr.frozen? ⟨w.heap.size, 1, none⟩ = false := by simp [World.frozen?, HXr.out]
        have z2 : wr.frozen? ⟨w.heap.size, 2, none⟩ = false := by simp [World.frozen?, HXr.out]
        obtain ⟨aK, cK, eK⟩ := row_form' hz.k
        obtain ⟨aP, cP, eP⟩ := row_form' hz.p
        have eK' : kv = .slice aK k cK := by have := eK; simpa using this
        have eP' : pv = .slice aP k cP := by have := eP; rw [rgs_len (Nat.le_refl _)] at this; exact this
        have hNk := HN.out
        have HF : Hid (((((wr.setCell ⟨w.heap.size, 0, none⟩ kv).setCell ⟨w.heap.size, 1, none⟩ pv).setCell ⟨w.heap.size, 2, none⟩ rv).heap[w.heap.size]? = some (.cells #[kv, pv, rv] 67 (0, 0))) ∧ FulS w (((wr.setCell ⟨w.heap.size, 0, none⟩ kv).setCell ⟨w.heap.size, 1, none⟩ pv).setCell ⟨w.heap.size, 2, none⟩ rv) n kv pv rv) := by
          have s1 := set_heap HXr.out 0 kv
          have s2 := set_heap s1 1 pv
          have s3 := set_heap s2 2 rv
          refine ⟨s3, ?_⟩
          have hbw : Below w.heap.size w wr := Below.step HB0.out H2.out
          have hb' : Below w.heap.size w (((wr.setCell ⟨w.heap.size, 0, none⟩ kv).setCell ⟨w.heap.size, 1, none⟩ pv).setCell ⟨w.heap.size, 2, none⟩ rv) := by
            refine ⟨hbw.os, hbw.tape, hbw.output, ?_, fun j hj => ?_⟩
            · have := hbw.size; simpa using this
            · have hne : j ≠ w.heap.size := by omega
              have g1 := (grown_set wr ⟨w.heap.size, 0, none⟩ kv)
              have g2 := (grown_set (wr.setCell ⟨w.heap.size, 0, none⟩ kv) ⟨w.heap.size, 1, none⟩ pv)
              have g3 := (grown_set ((wr.setCell ⟨w.heap.size, 0, none⟩ kv).setCell ⟨w.heap.size, 1, none⟩ pv) ⟨w.heap.size, 2, none⟩ rv)
              have hj1 := Nat.lt_of_lt_of_le hj hbw.size
              have hj2 := Nat.lt_of_lt_of_le hj1 g1.size
              have hj3 := Nat.lt_of_lt_of_le hj2 g2.size
              have hn : some j ≠ some w.heap.size := fun e => hne (by simpa using e)
              exact (g3.block j hj3 hn).trans ((g2.block j hj2 hn).trans ((g1.block j hj1 hn).trans (hbw.block j hj)))
          have hB1 : w.heap.size ≤ w1.heap.size := HB0.out.size
          refine ⟨hb', ?_, ?_, ?_, hz.pr⟩
          · have := set_oth s2 (j := 2) (v := rv) (set_oth s1 (j := 1) (v := pv) (set_oth HXr.out (j := 0) (v := kv) hz.k (by decide)) (by decide)) (by decide)
            have h2 := row_mono this hB1
            rw [hNk]; simpa using h2
          · have := set_oth s2 (j := 2) (v := rv) (set_oth s1 (j := 1) (v := pv) (set_oth HXr.out (j := 0) (v := kv) hz.p (by decide)) (by decide)) (by decide)
            have h2 := row_mono this hB1
            rw [rgs_all, List.length_range] at h2
            rw [hNk]; exact h2
          · have := set_oth s2 (j := 2) (v := rv) (set_oth s1 (j := 1) (v := pv) (set_oth HXr.out (j := 0) (v := kv) hz.r (by decide)) (by decide)) (by decide)
            have h2 := row_mono this hB1
            rw [rgs_all, List.length_range] at h2
            rw [hNk]; exact h2
        rw [HER.out, eK', eP'] at HF
        rw [eK'] at c0
        rw [eP'] at c1
        rw [HER.out] at c2
        clear hz H1 H2 HXr eK eP hNk HN HB0 HX0
        go_wp2
        refine bodyPost_ret (results_cell_row rfl _ _ w.heap.size 67 _ (0, 0) _ rfl HF.out.1 Try.underlying67 rfl (by kernel_rfl)) rfl ?_
        exact ⟨_, _, _, rfl, HF.out.2⟩
end Go.Proofs.Ytbfjhgiifmhccaa
