/-
  PaceSeq, walked.
  KEEP: walk putObj alloc same block size os tape output mono lt own new keep
-/
import Derived.Test.YthcbpdnaocpleaaPcS
import Derived.Deep.CutRange
import Derived.Deep.Cut
set_option linter.unusedSimpArgs false
set_option linter.unusedVariables false
namespace Go.Proofs.Ythcbpdnaocpleaa.paceSeq
open Go Go.RowKit Go.Shelf

attribute [local go_sem] Oper.semAt_some

/-- the statement's boxes: n, the answer, the sequence, the count -/
structure Sq (w : World) (n : Int) (i : Nat) (W : World) : Prop where
  nb : Bo W w.heap.size 3 (.int .i64 n)
  rb : Bo W (w.heap.size + 1) 4 (.bool false)
  sb : Bo W (w.heap.size + 2) 38 (.func (.func 27) #[] #[])
  ib : Bo W (w.heap.size + 3) 3 (.int .i64 i)
  bel : Below w.heap.size w W
theorem Sq.size {w W : World} {n : Int} {i : Nat} (h : Sq w n i W) : w.heap.size + 4 ≤ W.heap.size := by have := h.ib.lt; omega
theorem Sq.below {w W W' : World} {n : Int} {i : Nat} (h : Sq w n i W) (hb : Below W.heap.size W W') : Sq w n i W' := ⟨h.nb.below hb, h.rb.below hb, h.sb.below hb, h.ib.below hb, h.bel.next hb (Nat.le_refl _)⟩
theorem Sq.grown {w W W' : World} {n : Int} {i : Nat} {row : Option Nat} (h : Sq w n i W) (hg : W.grownBy W' row) (hr : ∀ r, row = some r → w.heap.size ≤ r ∧ ∃ o : Obj, W.heap[r]? = some o ∧ o.isCells = false) : Sq w n i W' :=
  have hr2 : ∀ r, row = some r → ∃ o : Obj, W.heap[r]? = some o ∧ o.isCells = false := fun r e => (hr r e).2
  ⟨h.nb.grown hg hr2, h.rb.grown hg hr2, h.sb.grown hg hr2, h.ib.grown hg hr2, h.bel.grown hg (by have := h.bel.size; omega) (fun r e => (hr r e).1)⟩
theorem Sq.own (w : World) (n : Int) (B : Nat) (hB : w.heap.size ≤ B) : OwnFrom B (Sq w n) := fun s A A' row hs hg hr => hs.grown hg (fun r e => ⟨Nat.le_trans hB (hr r e).1, (hr r e).2⟩)
theorem Sq.step {w W : World} {n : Int} {i : Nat} (h : Sq w n i W) : Sq w n (i + 1) (W.setCell ⟨w.heap.size + 3, 0, none⟩ (.int .i64 ((i : Int) + 1))) :=
  ⟨h.nb.other (by omega) _ _, h.rb.other (by omega) _ _, h.sb.other (by omega) _ _, by have := h.ib.set (.int .i64 ((i : Int) + 1)); exact this, h.bel.setCell (by show w.heap.size ≤ w.heap.size + 3; omega) _⟩

theorem Sq.new (w : World) (n : Int) : Sq w n 0 ((((w.alloc (.cells #[.int .i64 n] 3)).alloc (.cells #[.bool false] 4)).alloc (.cells #[.func (.func 27) #[] #[]] 38)).alloc (.cells #[.int .i64 0] 3)) := by
  have b1 := Bo.new w 3 (.int .i64 n)
  have s1 : (w.alloc (.cells #[.int .i64 n] 3)).heap.size = w.heap.size + 1 := by simp
  have e1 := below_new w (.cells #[.int .i64 n] 3)
  generalize w.alloc (.cells #[.int .i64 n] 3) = W1 at *
  have b2 := Bo.new W1 4 (.bool false)
  have s2 : (W1.alloc (.cells #[.bool false] 4)).heap.size = w.heap.size + 2 := by simp [s1]
  have e2 := below_new W1 (.cells #[.bool false] 4)
  generalize W1.alloc (.cells #[.bool false] 4) = W2 at *
  have b3 := Bo.new W2 38 (.func (.func 27) #[] #[])
  have s3 : (W2.alloc (.cells #[.func (.func 27) #[] #[]] 38)).heap.size = w.heap.size + 3 := by simp [s2]
  have e3 := below_new W2 (.cells #[.func (.func 27) #[] #[]] 38)
  generalize W2.alloc (.cells #[.func (.func 27) #[] #[]] 38) = W3 at *
  have b4 := Bo.new W3 3 (.int .i64 0)
  have e4 := below_new W3 (.cells #[.int .i64 0] 3)
  rw [s1] at b2
  rw [s2] at b3
  rw [s3] at b4
  exact ⟨((b1.below e2).below e3).below e4, (b2.below e3).below e4, b3.below e4, b4, ((e1.next e2 (Nat.le_refl _)).next e3 (Nat.le_refl _)).next e4 (Nat.le_refl _)⟩

set_option maxRecDepth 100000 in
set_option maxHeartbeats 6400000 in
theorem walk (n : Int) (w : World) (h1 : -9223372036854775808 ≤ n) (h2 : n ≤ 9223372036854775807) :
    Calls Try.prog 5 #[.int .i64 n] w fun e w' => e = .returned (.bool true) ∧ Below w.heap.size w w' := by
  refine calls_marks13 12 Try.func5 rfl ?_
  simp only [Try.ntmps5, List.size_toArray, List.length_cons, List.length_nil, Nat.reduceAdd, Nat.reduceSub, Array.replicate_succ, Array.replicate_zero, List.push_toArray, List.append_toArray, List.nil_append, List.cons_append]
  have hnil := func_nil13 27 #[]
  go_upto_region 1 with fail
  go_cut [8, 9, 10, 11, 12, 13] from 8 to 13 (fun u8 u9 u10 u11 u12 u13 wx => u13 = .bool (decide (n < 0 ∨ 5000 < n)) ∧ wx = (w.alloc (.cells #[.int .i64 n] 3)).alloc (.cells #[.bool false] 4))
  case first =>
    rcases (by omega : n < 0 ∨ (5000 < n ∧ 0 ≤ n) ∨ (0 ≤ n ∧ n ≤ 5000)) with hn | ⟨hn2, hn⟩ | ⟨hn, hn2⟩
    · go_wp2_with fail
      go_meet
      exact ⟨by simp [hn], rfl⟩
    · go_wp2_with fail
      go_meet
      exact ⟨by simp [hn2], rfl⟩
    · go_wp2_with fail
      go_meet
      exact ⟨by congr 1; rw [Bool.eq_iff_iff]; simp; try omega, rfl⟩
  case rest =>
  obtain ⟨rfl, rfl⟩ := hcut
  obtain ⟨q, hq⟩ : ∃ q, decide (n < 0 ∨ 5000 < n) = q := ⟨_, rfl⟩
  rw [hq]
  have hNq : q = false → 0 ≤ n ∧ n ≤ 5000 := fun e => by rw [e] at hq; have := of_decide_eq_false hq; omega
  have HNq : Hid (q = false → 0 ≤ n ∧ n ≤ 5000) := hNq
  clear hq hNq
  go_upto_if 13 with fail
  go_cut [13] from 13 to 13 (fun u13 wx => ∃ N : Nat, N ≤ 5000 ∧ wx = (w.alloc (.cells #[.int .i64 N] 3)).alloc (.cells #[.bool false] 4))
  case first =>
    cases q
    · have h := HNq.out rfl
      go_wp2_with fail
      go_meet
      exact ⟨n.toNat, by omega, by rw [Int.toNat_of_nonneg h.1]⟩
    · go_wp2_with fail
      go_meet
      exact ⟨5000, by omega, rfl⟩
  case rest =>
  obtain ⟨N, hN, rfl⟩ := hcut
  go_wp2_with (go_at_call 14; refine (seq_any _).mono ?_; rintro e w' ⟨rfl, rfl⟩)
  clear hnil
  have h0 := Sq.new w N
  generalize ((((w.alloc (.cells #[.int .i64 (N : Int)] 3)).alloc (.cells #[.bool false] 4)).alloc (.cells #[.func (.func 27) #[] #[]] 38)).alloc (.cells #[.int .i64 0] 3)) = W0 at h0 ⊢
  have hs0 := h0.size
  refine (wpIn_wide (n := 12)).1 ?_
  refine' wpIn_rangeI (by omega) rfl (N + 1) (by omega) (by omega) rfl (Sq w N) (fun c i W => c = .exit 0 ∧ Sq w N (N + 1) W) (Sq.own w N _ (by omega)) (fun c s A B row hs hg hr => ⟨hs.1, hs.2.grown hg (fun r e => ⟨by have := (hr r e).1; omega, (hr r e).2⟩)⟩) h0 _ ?assign ?body ?stop
  case assign =>
    intro l x W K hK
    gi_wp2
    exact hK
  case stop =>
    rintro D c i W hD ⟨rfl, hS⟩ hK
    have g0 := hS.nb.c
    have g3 : W.cell? ⟨w.heap.size + 1 + 1 + 1, 0, none⟩ = _ := hS.ib.c
    have g1 := hS.rb.c
    have f1 := hS.rb.f
    have HS : Hid (Sq w N (N + 1) W) := hS
    rw [show ((N + 1 : Nat) : Int) = (N : Int) + 1 by omega] at g3
    clear hS h0
    gi_wp2
    go_wp2
    have hqq : ((N : Int) + 1 == (N : Int) + 1) = true := beq_self_eq_true _
    have k4 := World.cell?_setCell_same' W ⟨w.heap.size + 1, 0, none⟩ (.bool true) (by rw [g1]; rfl)
    have hK' := (KeepsOthers.setCell W ⟨w.heap.size + 1, 0, none⟩ (.bool true)).same D _ hK rfl
    refine ⟨by simp, .inl ⟨_, _, rfl, run_takeDeferred hK', ?_⟩⟩
    have gp := grownBy_putObj' (W.setCell ⟨w.heap.size + 1, 0, none⟩ (.bool true)) D (.deferred none)
    have bb : RowKit.Below w.heap.size w (W.setCell ⟨w.heap.size + 1, 0, none⟩ (.bool true)) := HS.out.bel.setCell (p := ⟨w.heap.size + 1, 0, none⟩) (by show w.heap.size ≤ w.heap.size + 1; omega) _
    have hwl : w.heap.size + 1 < (W.setCell ⟨w.heap.size + 1, 0, none⟩ (.bool true)).heap.size := World.block_lt_of_cell? _ _ k4
    have k5 := (World.cell?_of_block (a := ⟨w.heap.size + 1, 0, none⟩) (gp.block (w.heap.size + 1) hwl (by simp; omega))).trans k4
    exact ⟨.bool true, by simp [results, Try.f5, go_sem, k5], rfl, ⟨gp.os.trans bb.os, gp.tape.trans bb.tape, gp.output.trans bb.output, Nat.le_trans bb.size gp.size, fun k hk => (gp.block k (by have := bb.size; omega) (by simp; omega)).trans (bb.block k hk)⟩⟩
  case body =>
    rintro l i W hl ⟨r0, hr0⟩ hsz hS hi
    have hL : lubI ((i : Int) + 1) = (lub (i + 1) : Int) := lubI_nat (n := i + 1) (by omega)
    have g3 : W.cell? ⟨w.heap.size + 1 + 1 + 1, 0, none⟩ = _ := hS.ib.c
    have f3 : W.frozen? ⟨w.heap.size + 1 + 1 + 1, 0, none⟩ = false := hS.ib.f
    have hS1 := hS.step
    have kS1 := KeepsOthers.setCell W ⟨w.heap.size + 3, 0, none⟩ (.int .i64 ((i : Int) + 1))
    have hlt := hS.ib.lt
    have HL : Hid (lubI ((i : Int) + 1) = (lub (i + 1) : Int)) := hL
    have HS1 : Hid (Sq w N (i + 1) (W.setCell ⟨w.heap.size + 3, 0, none⟩ (.int .i64 ((i : Int) + 1)))) := hS1
    have HK1 : Hid (KeepsOthers W (W.setCell ⟨w.heap.size + 3, 0, none⟩ (.int .i64 ((i : Int) + 1)))) := kS1
    clear hL hS1 kS1 hS h0
    gi_upto_region 10 with fail
    have hr1 : (W.setCell ⟨w.heap.size + 3, 0, none⟩ (.int .i64 ((i : Int) + 1))).heap[l]? = some (.loop r0) := HK1.out.same l _ hr0 rfl
    show Code.wpIn _ _ _ _ _ _ (W.setCell ⟨w.heap.size + 3, 0, none⟩ (.int .i64 ((i : Int) + 1)))
    generalize W.setCell ⟨w.heap.size + 3, 0, none⟩ (.int .i64 ((i : Int) + 1)) = W1 at *
    clear g3 f3 hr0 hlt
    have hS1 := HS1.out
    have g0 := hS1.nb.c
    have g2 : W1.cell? ⟨w.heap.size + 1 + 1, 0, none⟩ = _ := hS1.sb.c
    have g3 : W1.cell? ⟨w.heap.size + 1 + 1 + 1, 0, none⟩ = _ := hS1.ib.c
    rw [show ((i + 1 : Nat) : Int) = (i : Int) + 1 by omega] at g3
    have hs1 := hS1.size
    have hW1 := HK1.out.size
    clear hS1
    by_cases hm : ((i : Int) + 1) % 1000 = 7
    · have hq : (((i : Int) + 1) % 1000 == 7) = true := by simp [hm]
      clear hm
      gi_upto_region 14 with (refine ⟨trivial, ?_⟩; gi_at_call 13; refine (CallsIn.inRound l (callsIn_wide.2 (rLuby_any ((i : Int) + 1) _ (by omega) (by omega)))).mono ?_; rw [HL.out]; rintro e w2 ⟨rfl, rfl⟩)
      have hb2 := below_new w2 (.cells #[.int .i64 0] 3)
      have HS2 : Hid (Sq w N (i + 1) (w2.alloc (.cells #[.int .i64 0] 3))) := HS1.out.below hb2
      have HK2 : Hid (KeepsOthers W (w2.alloc (.cells #[.int .i64 0] 3))) := HK1.out.trans (keeps_bel hb2)
      have hr2 : (w2.alloc (.cells #[.int .i64 0] 3)).heap[l]? = some (.loop r0) := (keeps_bel hb2).same l _ hr1 rfl
      have HBk : Hid (Bo (w2.alloc (.cells #[.int .i64 0] 3)) w2.heap.size 3 (.int .i64 0)) := Bo.new _ _ _
      have hsK : (w2.alloc (.cells #[.int .i64 0] 3)).heap.size = w2.heap.size + 1 := by simp
      clear g0 g2 g3 HS1 HK1 hb2 hr1
      generalize w2.alloc (.cells #[.int .i64 0] 3) = W2 at *
      generalize w2.heap.size = K at *
      have g2 : W2.cell? ⟨w.heap.size + 1 + 1, 0, none⟩ = _ := HS2.out.sb.c
      gi_wp2
      refine' wpIn_rangeJ hr2 (by omega) rfl 9 (by omega) (by omega) rfl (fun j W' => KeepsOthers W W' ∧ Sq w N (i + 1) W' ∧ Bo W' K 3 (.int .i64 (j : Int))) (fun c j W' => c = .exit 2 ∧ KeepsOthers W W' ∧ Sq w N (i + 1) W' ∧ Bo W' K 3 (.int .i64 9))
        (fun s A B row hs hg hr => ⟨keeps_grown hs.1 hg (fun r e => (hr r e).1) (by omega), hs.2.1.grown hg (fun r e => ⟨by have := (hr r e).1; omega, (hr r e).2⟩), hs.2.2.grown hg (fun r e => (hr r e).2)⟩)
        (fun c s A B row hs hg hr => ⟨hs.1, keeps_grown hs.2.1 hg (fun r e => (hr r e).1) (by omega), hs.2.2.1.grown hg (fun r e => ⟨by have := (hr r e).1; omega, (hr r e).2⟩), hs.2.2.2.grown hg (fun r e => (hr r e).2)⟩)
        ⟨HK2.out, HS2.out, HBk.out⟩ _ ?assign2 ?body2 ?stop2
      case assign2 =>
        intro l2 x W3 K3 hK3
        gi_wp2
        exact hK3
      case body2 =>
        rintro l2 j W3 hl2 hsz2 ⟨hk3, hS3, hb3⟩ hj
        have HL3 : Hid (lubI ((j : Int) + 1) = (lub (j + 1) : Int)) := lubI_nat (n := j + 1) (by omega)
        have c3 := hb3.c
        have f3 := hb3.f
        have HB4 : Hid (Bo (W3.setCell ⟨K, 0, none⟩ (.int .i64 ((j : Int) + 1))) K 3 (.int .i64 ((j : Int) + 1))) := hb3.set _
        have HK4 : Hid (KeepsOthers W3 (W3.setCell ⟨K, 0, none⟩ (.int .i64 ((j : Int) + 1)))) := KeepsOthers.setCell _ _ _
        have HS4 : Hid (Sq w N (i + 1) (W3.setCell ⟨K, 0, none⟩ (.int .i64 ((j : Int) + 1)))) := ⟨hS3.nb.other (by omega) _ _, hS3.rb.other (by omega) _ _, hS3.sb.other (by omega) _ _, hS3.ib.other (by omega) _ _, hS3.bel.setCell (by show w.heap.size ≤ K; omega) _⟩
        have HK3 : Hid (KeepsOthers W W3) := hk3
        clear hk3 hS3 hb3
        gi_upto_region 17 with fail
        generalize W3.setCell ⟨K, 0, none⟩ (.int .i64 ((j : Int) + 1)) = W4 at *
        have c4 := HB4.out.c
        clear c3 f3
        by_cases h9 : j = 8
        · have hq9 : ((j : Int) + 1 == 9) = true := by simp; omega
          have H9 : Hid (j = 8) := h9
          clear h9
          gi_wp2_with (refine ⟨trivial, ?_⟩; gi_at_call 13; refine (CallsIn.inRound l2 (CallsIn.inRound l (callsIn_wide.2 (rLuby_any ((j : Int) + 1) _ (by omega) (by omega))))).mono ?_; rw [HL3.out]; rintro e w5 ⟨rfl, rfl⟩)
          refine ⟨HK4.out, rfl, HK3.out.trans HK4.out, HS4.out, ?_⟩
          have := HB4.out
          rw [H9.out] at this
          exact this
        · have hq9 : ((j : Int) + 1 == 9) = false := by simp; omega
          gi_wp2_with (refine ⟨trivial, ?_⟩; gi_at_call 13; refine (CallsIn.inRound l2 (CallsIn.inRound l (callsIn_wide.2 (rLuby_any ((j : Int) + 1) _ (by omega) (by omega))))).mono ?_; rw [HL3.out]; rintro e w5 ⟨rfl, rfl⟩)
          exact ⟨HK4.out, ⟨HK3.out.trans HK4.out, HS4.out, HB4.out⟩, by omega⟩
      case stop2 =>
        rintro c j W3 ⟨rfl, hk3, hS3, hb3⟩
        have c3 := hb3.c
        have g0 := hS3.nb.c
        have g3 : W3.cell? ⟨w.heap.size + 1 + 1 + 1, 0, none⟩ = _ := hS3.ib.c
        rw [show ((i + 1 : Nat) : Int) = (i : Int) + 1 by omega] at g3
        have HS3 : Hid (Sq w N (i + 1) W3) := hS3
        have HK3 : Hid (KeepsOthers W W3) := hk3
        clear hk3 hS3 hb3
        by_cases hN2 : i = N
        · have hgt : (N : Int) < (i : Int) + 1 := by omega
          have HN2 : Hid (i = N) := hN2
          clear hN2
          gi_wp2
          refine ⟨HK3.out, rfl, ?_⟩
          have := HS3.out; rw [HN2.out] at this; exact this
        · have hgt : (i : Int) + 1 ≤ (N : Int) := by omega
          clear hN2
          gi_wp2
          exact ⟨HK3.out, HS3.out, by omega⟩
    · have hq : (((i : Int) + 1) % 1000 == 7) = false := by simp [hm]
      clear hm
      by_cases hN2 : i = N
      · have hgt : (N : Int) < (i : Int) + 1 := by omega
        have HN2 : Hid (i = N) := hN2
        clear hN2
        gi_wp2_with (refine ⟨trivial, ?_⟩; gi_at_call 13; refine (CallsIn.inRound l (callsIn_wide.2 (rLuby_any ((i : Int) + 1) _ (by omega) (by omega)))).mono ?_; rw [HL.out]; rintro e w2 ⟨rfl, rfl⟩)
        refine ⟨HK1.out, rfl, ?_⟩
        have := HS1.out; rw [HN2.out] at this; exact this
      · have hgt : (i : Int) + 1 ≤ (N : Int) := by omega
        clear hN2
        gi_wp2_with (refine ⟨trivial, ?_⟩; gi_at_call 13; refine (CallsIn.inRound l (callsIn_wide.2 (rLuby_any ((i : Int) + 1) _ (by omega) (by omega)))).mono ?_; rw [HL.out]; rintro e w2 ⟨rfl, rfl⟩)
        exact ⟨HK1.out, HS1.out, by omega⟩
end Go.Proofs.Ythcbpdnaocpleaa.paceSeq
