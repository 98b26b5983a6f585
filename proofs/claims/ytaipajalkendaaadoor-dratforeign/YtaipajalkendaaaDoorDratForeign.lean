/-
  DratForeign, walked.
  KEEP: walk new at on app start below rdz form out len row own mono lt nb wb rb bel q keep size next kpd same block os tape output c f set of_grownBy setCell refl trans
-/
import Derived.Test.YtaipajalkendaaaDoorDrWr
import Derived.Test.YtaipajalkendaaaDoorDrC
import Derived.Test.YtaipajalkendaaaDoorDrSd
import Derived.Test.YtaipajalkendaaaDoorDrRe
import Derived.Test.YtaipajalkendaaaDoorDrGv
import Derived.Test.YtaipajalkendaaaDoorDrFo
import Derived.Test.YtaipajalkendaaaDoorOpenZ
set_option linter.unusedSimpArgs false
set_option linter.unusedVariables false
namespace Go.Proofs.YtaipajalkendaaaDoor
open Go Go.RowKit Go.Shelf
theorem wz9f {l : List Stp} (h : stpN l ≤ 1048576) : wz l ≤ 274877906944 := by unfold stpN at h; unfold wz; omega
theorem drW_size9f {l : List Stp} (h : stpN l ≤ 1048576) (hs : sndS l = true) : (drW l).length ≤ 274877906944 := by
  have := drW_len l hs; have := wz9f h; unfold wz at this; omega
set_option maxRecDepth 20000 in
theorem func_nil9f (k : Nat) (lb : Array Value) (w : World) : (binOp BinOp.eql 37 (.func (.func k) #[] lb) .nilFunc).run Tryd.prog w = .ok (.bool false) w := by rfl
/-- what the range holds between two rounds -/
structure GfI (w : World) (N : Nat) (u : Value) (Qs : Nat → Prop) (pre : List SV) (W : World) : Prop where
  nb : W.heap[N]? = some (.cells #[.int .i64 (pre.length : Nat)] 3 (0, 0))
  wb : W.heap[w.heap.size]? = some (.cells #[u] 42 (0, 0))
  rb : W.heap[w.heap.size + 1]? = some (.cells #[.bool false] 4 (0, 0))
  bel : Below w.heap.size w W
  q : ∀ k, Qs k → N + 1 ≤ k
theorem GfI.keep {w : World} {N : Nat} {u : Value} {Qs Q' : Nat → Prop} {pre : List SV} {A B : World} (h : GfI w N u Qs pre A) (hN : w.heap.size + 2 ≤ N) (hk : ∀ k, k < N + 1 → B.heap[k]? = A.heap[k]?) (hs : A.heap.size ≤ B.heap.size) (h1 : B.os = A.os) (h2 : B.tape = A.tape) (h3 : B.output = A.output) (hq : ∀ k, Q' k → N + 1 ≤ k) : GfI w N u Q' pre B :=
  ⟨(hk _ (by omega)).trans h.nb, (hk _ (by omega)).trans h.wb, (hk _ (by omega)).trans h.rb, ⟨h1.trans h.bel.os, h2.trans h.bel.tape, h3.trans h.bel.output, Nat.le_trans h.bel.size hs, fun k hk' => (hk k (by omega)).trans (h.bel.block k hk')⟩, hq⟩
theorem GfI.size {w : World} {N : Nat} {u : Value} {Qs : Nat → Prop} {pre : List SV} {A : World} (h : GfI w N u Qs pre A) : N + 1 ≤ A.heap.size := (Array.getElem?_eq_some_iff.1 h.nb).1
theorem GfI.next {w : World} {N : Nat} {u : Value} {Qs : Nat → Prop} {pre p2 : List SV} {W : World} {m : Nat} (h : GfI w N u Qs pre W) (hN : w.heap.size + 2 ≤ N) (n : Nat) (hn : p2.length = m + 1) : GfI w N u Qs p2 ((W.drewN n).setCell ⟨N, 0, none⟩ (.int .i64 ((m : Int) + 1))) := by
  refine ⟨?_, ?_, ?_, ?_, h.q⟩
  · rw [hn]
    have := Joins.block_setCell (i := 0) (show (W.drewN n).heap[N]? = _ from h.nb) (.int .i64 ((m : Int) + 1))
    simpa using this
  · exact (Below.heap_setCell _ _ _ _ (by show w.heap.size ≠ N; omega)).trans h.wb
  · exact (Below.heap_setCell _ _ _ _ (by show w.heap.size + 1 ≠ N; omega)).trans h.rb
  · have b1 : Below w.heap.size w (W.drewN n) := ⟨h.bel.os, h.bel.tape, h.bel.output, h.bel.size, h.bel.block⟩
    exact b1.setCell (p := ⟨N, 0, none⟩) (by show w.heap.size ≤ N; omega) _
theorem GfI.kpd {w : World} {N : Nat} {u : Value} {Qs : Nat → Prop} {pre : List SV} {W : World} (h : GfI w N u Qs pre W) (n : Nat) (v : Value) : KpD Qs W ((W.drewN n).setCell ⟨N, 0, none⟩ v) :=
  ⟨fun k hk => Below.heap_setCell _ _ _ _ (by have := h.q k hk; show k ≠ N; omega), by rw [World.size_setCell]; exact Nat.le_refl _⟩
theorem two_box (w : World) (x y : Value) (t1 t2 : TypeId) : ((w.alloc (.cells #[x] t1)).alloc (.cells #[y] t2)).heap[w.heap.size]? = some (.cells #[x] t1 (0, 0)) ∧ ((w.alloc (.cells #[x] t1)).alloc (.cells #[y] t2)).heap[w.heap.size + 1]? = some (.cells #[y] t2 (0, 0)) := by
  have h := World.alloc_heap_new (w.alloc (.cells #[x] t1)) (.cells #[y] t2)
  rw [World.size_alloc] at h
  exact ⟨(Below.heap_alloc _ _ _ (by simp)).trans (World.alloc_heap_new w _), h⟩
theorem cell_of {W : World} {g : Nat} {x : Value} {t : TypeId} (h : W.heap[g]? = some (.cells #[x] t (0, 0))) : W.cell? ⟨g, 0, none⟩ = some x := by unfold World.cell?; dsimp only; rw [h]; rfl
theorem frozen_of {W : World} {g : Nat} {x : Value} {t : TypeId} (h : W.heap[g]? = some (.cells #[x] t (0, 0))) : W.frozen? ⟨g, 0, none⟩ = false := by simp [World.frozen?, h]
namespace dratForeign
attribute [local go_sem] Oper.semAt_some
open Go.Lib Go.Sort

set_option maxHeartbeats 6400000 in
set_option maxRecDepth 100000 in
theorem walk (sa : Value) (a : List Stp) (sb : Value) (b : List Stp) (n : Int) (w : World) (hra : RdZ w sa a) (hrb : RdZ w sb b) (hwn : (Lit.int .i64 n).wf = true) (hba : stpN a ≤ 1048576) (hbb : stpN b ≤ 1048576) (he : Env w) :
    Calls Tryd.prog 7 #[sa, sb, .int .i64 n] w fun e w' => e = .returned (.bool true) ∧ RowKit.Below w.heap.size w w' := by
  have hla := hra.len
  have hlb := hrb.len
  have HA : Hid (RdZ w sa a) := hra
  have HB : Hid (RdZ w sb b) := hrb
  have H8a : Hid (∀ x ∈ a, x.2.length * 8 ≤ 140737488351232) := rdz_each hra
  have H8b : Hid (∀ x ∈ b, x.2.length * 8 ≤ 140737488351232) := rdz_each hrb
  have HE0 : Hid (Env w) := he
  obtain ⟨aa, ca, rfl, hca, hma, _⟩ := hra.form
  obtain ⟨ab, cb, rfl, hcb, hmb, _⟩ := hrb.form
  have hna : a.length ≤ 1048576 := by unfold stpN at hba; omega
  have B0 : RowKit.Below w.heap.size w ((w.alloc (.cells #[.slice aa a.length ca] 42)).alloc (.cells #[.bool false] 4)) := Below.step (below_box _ _) (below_box _ _)
  have SA := sound9_any _ a _ (HA.out.below B0)
  have SB := sound9_any _ b _ (HB.out.below B0)
  clear hra hrb he
  cases hsa : sndS a
  · rw [hsa] at SA
    have HS : Hid (Calls Tryd.prog 19 #[.slice aa a.length ca] ((w.alloc (.cells #[.slice aa a.length ca] 42)).alloc (.cells #[.bool false] 4)) fun e w' => e = .returned (.bool false) ∧ w' = ((w.alloc (.cells #[.slice aa a.length ca] 42)).alloc (.cells #[.bool false] 4))) := SA
    have HB0 : Hid (RowKit.Below w.heap.size w ((w.alloc (.cells #[.slice aa a.length ca] 42)).alloc (.cells #[.bool false] 4))) := B0
    clear SA SB B0
    go_enter Tryd.func7, Tryd.ntmps7
    go_wp2_with fail
    refine HS.out.mono ?_
    rintro e w1 ⟨rfl, rfl⟩
    go_wp2
    have kr := cell_of (two_box w (.slice aa a.length ca) (.bool true) 42 4).2
    exact ⟨rfl, .bool true, by simp [results, Tryd.f7, go_sem, kr], rfl, Below.step (below_box _ _) (below_box _ _)⟩
  rw [hsa] at SA
  have HS : Hid (Calls Tryd.prog 19 #[.slice aa a.length ca] ((w.alloc (.cells #[.slice aa a.length ca] 42)).alloc (.cells #[.bool false] 4)) fun e w' => e = .returned (.bool true) ∧ w' = ((w.alloc (.cells #[.slice aa a.length ca] 42)).alloc (.cells #[.bool false] 4))) := SA
  cases hsb : sndS b
  · rw [hsb] at SB
    have HS2 : Hid (Calls Tryd.prog 19 #[.slice ab b.length cb] ((w.alloc (.cells #[.slice aa a.length ca] 42)).alloc (.cells #[.bool false] 4)) fun e w' => e = .returned (.bool false) ∧ w' = ((w.alloc (.cells #[.slice aa a.length ca] 42)).alloc (.cells #[.bool false] 4))) := SB
    clear SA SB B0
    go_enter Tryd.func7, Tryd.ntmps7
    go_wp2_with fail
    refine HS.out.mono ?_
    rintro e w1 ⟨rfl, rfl⟩
    go_wp2_with fail
    refine HS2.out.mono ?_
    rintro e w1 ⟨rfl, rfl⟩
    go_wp2
    have kr := cell_of (two_box w (.slice aa a.length ca) (.bool true) 42 4).2
    exact ⟨rfl, .bool true, by simp [results, Tryd.f7, go_sem, kr], rfl, Below.step (below_box _ _) (below_box _ _)⟩
  rw [hsb] at SB
  have HS2 : Hid (Calls Tryd.prog 19 #[.slice ab b.length cb] ((w.alloc (.cells #[.slice aa a.length ca] 42)).alloc (.cells #[.bool false] 4)) fun e w' => e = .returned (.bool true) ∧ w' = ((w.alloc (.cells #[.slice aa a.length ca] 42)).alloc (.cells #[.bool false] 4))) := SB
  have wr : ∀ l : List Stp, sndS l = true → wz l ≤ 1099511627776 → ∀ W u, RdZ W u l → TensY W → Calls Tryd.prog 20 #[u] W fun e w' => e = .returned (.tuple #[.string ⟨(drW l).toArray⟩, .int .i64 0]) ∧ RowKit.Below W.heap.size W w' := fun l h1 h2 W u h3 h4 => by have := drWrite_any u l W h3 h2 h4; rw [h1] at this; exact this
  have hwa := wz9f hba
  have hwb := wz9f hbb
  have HWa : Hid (∀ W u, RdZ W u a → TensY W → Calls Tryd.prog 20 #[u] W fun e w' => e = .returned (.tuple #[.string ⟨(drW a).toArray⟩, .int .i64 0]) ∧ RowKit.Below W.heap.size W w') := wr a hsa (by omega)
  have HWb : Hid (∀ W u, RdZ W u b → TensY W → Calls Tryd.prog 20 #[u] W fun e w' => e = .returned (.tuple #[.string ⟨(drW b).toArray⟩, .int .i64 0]) ∧ RowKit.Below W.heap.size W w') := wr b hsb (by omega)
  have hza := drW_size9f hba hsa
  have hzb := drW_size9f hbb hsb
  have HF : Hid (∀ W, Calls Tryd.prog 22 #[.int .i64 n] W fun e w' => ∃ f ∈ fW, e = .returned (.string ⟨f.toArray⟩) ∧ RowKit.Below W.heap.size W w') := fun W => by
    have hr : -9223372036854775808 ≤ n ∧ n ≤ 9223372036854775807 := by
      have h := hwn
      simp [Lit.wf] at h
      exact ⟨h.1, h.2⟩
    exact foreign_any n hr.1 hr.2 W
  have HP : Hid (∀ f ∈ fW, parD (drW a ++ [49, 32] ++ f ++ [32, 48, 10] ++ drW b) = (a, a.length + 1) ∧ f.length ≤ 20) := fun f hf => by
    obtain ⟨q1, q2, q3, q4⟩ := fW_ok f hf
    have := par_foreign a f (48 :: 10 :: drW b) hsa q1 q2 q3
    exact ⟨by rw [← this]; simp, q4⟩
  have hcat1 : ∀ W, (Op.stringOp .add ⟨(drW a).toArray⟩ ⟨#[49, 32]⟩).run Tryd.prog W = .ok (.string ⟨(drW a ++ [49, 32]).toArray⟩) W := cat9_run (drW a) [49, 32] _ rfl (by simp; omega)
  have hcat2 : Hid (∀ f ∈ fW, ∀ W, (Op.stringOp .add ⟨(drW a ++ [49, 32]).toArray⟩ ⟨f.toArray⟩).run Tryd.prog W = .ok (.string ⟨(drW a ++ [49, 32] ++ f).toArray⟩) W) := fun f hf => cat9_run _ _ _ rfl (by have := (HP.out f hf).2; simp; omega)
  have hcat3 : Hid (∀ f ∈ fW, ∀ W, (Op.stringOp .add ⟨(drW a ++ [49, 32] ++ f).toArray⟩ ⟨#[32, 48, 10]⟩).run Tryd.prog W = .ok (.string ⟨(drW a ++ [49, 32] ++ f ++ [32, 48, 10]).toArray⟩) W) := fun f hf => cat9_run _ [32, 48, 10] _ rfl (by have := (HP.out f hf).2; simp; omega)
  have hcat4 : Hid (∀ f ∈ fW, ∀ W, (Op.stringOp .add ⟨(drW a ++ [49, 32] ++ f ++ [32, 48, 10]).toArray⟩ ⟨(drW b).toArray⟩).run Tryd.prog W = .ok (.string ⟨(drW a ++ [49, 32] ++ f ++ [32, 48, 10] ++ drW b).toArray⟩) W) := fun f hf => cat9_run _ _ _ rfl (by have := (HP.out f hf).2; simp; omega)
  have HZ : Hid (∀ f ∈ fW, (drW a ++ [49, 32] ++ f ++ [32, 48, 10] ++ drW b).length ≤ 1099511627776) := fun f hf => by have := (HP.out f hf).2; simp; omega
  have HB0 : Hid (RowKit.Below w.heap.size w ((w.alloc (.cells #[.slice aa a.length ca] 42)).alloc (.cells #[.bool false] 4))) := B0
  have TB := two_box w (.slice aa a.length ca) (.bool false) 42 4
  have sz0 : ((w.alloc (.cells #[.slice aa a.length ca] 42)).alloc (.cells #[.bool false] 4)).heap.size = w.heap.size + 2 := by simp
  have hnil := func_nil9f 36
  clear SA SB B0 hsa hsb wr hwa hwb hba hbb hza hzb
  generalize hTa : drW a ++ [49, 32] = Ta at *
  refine calls_marks9 12 Tryd.func7 rfl ?_
  simp only [Tryd.ntmps7, List.size_toArray, List.length_cons, List.length_nil, Nat.reduceAdd, Nat.reduceSub, Array.replicate_succ, Array.replicate_zero, List.push_toArray, List.append_toArray, List.nil_append, List.cons_append]
  go_wp2_with fail
  generalize ((w.alloc (.cells #[.slice aa a.length ca] 42)).alloc (.cells #[.bool false] 4)) = W0 at *
  obtain ⟨tb1, tb2⟩ := TB
  have g0 := cell_of tb1
  refine HS.out.mono ?_
  rintro e w1 ⟨rfl, hw1⟩
  obtain rfl := hw1.symm
  go_wp2_with fail
  refine HS2.out.mono ?_
  rintro e w1 ⟨rfl, hw1⟩
  obtain rfl := hw1.symm
  clear HS HS2
  go_wp2_with fail
  refine (copySteps_any _ a _ (HA.out.below HB0.out)).mono ?_
  rintro e w1 ⟨u1, rfl, own1, bel1⟩
  have R1 : Hid (RdZ w1 u1 a) := own1.rdz hla H8a.out
  have E1 : Hid (Env w1) := (HE0.out.below HB0.out).below bel1
  clear own1
  go_wp2_with fail
  refine (HWa.out w1 u1 R1.out E1.out.1).mono ?_
  rintro e w2 ⟨rfl, bel2⟩
  have b2 : Hid (RowKit.Below W0.heap.size W0 w2) := Below.step bel1 bel2
  have B2 : Hid (RdZ w2 (.slice ab b.length cb) b) := (HB.out.below HB0.out).below b2.out
  clear R1 E1 bel1 bel2
  go_wp2_with fail
  refine (copySteps_any _ b _ B2.out).mono ?_
  rintro e w3 ⟨u3, rfl, own3, bel3⟩
  have R3 : Hid (RdZ w3 u3 b) := own3.rdz hlb H8b.out
  have b3 : Hid (RowKit.Below W0.heap.size W0 w3) := Below.step b2.out bel3
  have E3 : Hid (Env w3) := (HE0.out.below HB0.out).below b3.out
  clear own3 bel3
  go_wp2_with fail
  refine (HWb.out w3 u3 R3.out E3.out.1).mono ?_
  rintro e w4 ⟨rfl, bel4⟩
  have b4 : Hid (RowKit.Below W0.heap.size W0 w4) := Below.step b3.out bel4
  clear R3 E3 bel4 B2
  go_wp2_with fail
  refine (HF.out w4).mono ?_
  rintro e w5 ⟨f, hf, rfl, bel5⟩
  have b5 : Hid (RowKit.Below W0.heap.size W0 w5) := Below.step b4.out bel5
  have hc2 := hcat2.out f hf
  have hc3 := hcat3.out f hf
  have hc4 := hcat4.out f hf
  have hpa := (HP.out f hf).1
  have hzt := HZ.out f hf
  clear bel5 hcat2 hcat3 hcat4 HP HZ HF
  generalize Ta ++ f ++ [32, 48, 10] ++ drW b = T4 at *
  generalize Ta ++ f ++ [32, 48, 10] = T3 at *
  generalize Ta ++ f = T2 at *
  have HRe : Hid (∀ W, Env W → Calls Tryd.prog 23 #[.string ⟨T4.toArray⟩] W fun e w' => ∃ ar cr, e = .returned (.tuple #[.slice ar 0 cr, .int .i64 90, .int .i64 ((a.length : Int) + 1)]) ∧ RowKit.Below W.heap.size W w') := fun W hW => by
    have h1 := readD_any ⟨T4.toArray⟩ W hzt hW
    rw [show parD (⟨T4.toArray⟩ : ByteArray).data.toList = (a, a.length + 1) from hpa] at h1
    simp only [Nat.add_eq_zero_iff, Nat.one_ne_zero, and_false, if_false] at h1
    refine h1.mono ?_
    rintro e w' ⟨v, rfl, _, q3, q4⟩
    obtain ⟨ar, cr, rfl, _⟩ := q3.form
    exact ⟨ar, cr, rfl, q4⟩
  have E5 : Hid (Env w5) := (HE0.out.below HB0.out).below b5.out
  have HPA : Hid (parD T4 = (a, a.length + 1)) := hpa
  have HZT : Hid (T4.length ≤ 1099511627776) := hzt
  clear hpa hzt
  go_wp2_with fail
  refine (HRe.out w5 E5.out).mono ?_
  rintro e w6 ⟨ar, cr, rfl, bel6⟩
  have b6 : Hid (RowKit.Below W0.heap.size W0 w6) := Below.step b5.out bel6
  have g6 : w6.cell? ⟨w.heap.size, 0, none⟩ = some (.slice aa a.length ca) := (b6.out.cell (p := ⟨w.heap.size, 0, none⟩) (by show w.heap.size < _; omega)).trans g0
  clear bel6 HRe E5 g0
  go_wp2_with fail
  refine (stepsF9_any _ w6).mono ?_
  rintro e w7 ⟨rfl, rfl⟩
  go_wp2_with fail
  have T8 := two_box w6 (.string ⟨T4.toArray⟩) (.int .i64 0) 9 3
  have B8 : RowKit.Below w6.heap.size w6 ((w6.alloc (.cells #[.string ⟨T4.toArray⟩] 9)).alloc (.cells #[.int .i64 0] 3)) := Below.step (below_box _ _) (below_box _ _)
  have sz8 : ((w6.alloc (.cells #[.string ⟨T4.toArray⟩] 9)).alloc (.cells #[.int .i64 0] 3)).heap.size = w6.heap.size + 2 := by simp
  generalize ((w6.alloc (.cells #[.string ⟨T4.toArray⟩] 9)).alloc (.cells #[.int .i64 0] 3)) = W8 at *
  have s6 := b6.out.size
  have b8 : RowKit.Below W0.heap.size W0 W8 := Below.step b6.out B8
  have hN : w.heap.size + 2 ≤ w6.heap.size + 1 := by omega
  have h0 : GfI w (w6.heap.size + 1) (.slice aa a.length ca) (fun _ => False) [] W8 :=
    ⟨T8.2, (b8.block _ (by omega)).trans tb1, (b8.block _ (by omega)).trans tb2, Below.trans HB0.out (b8.mono (by omega)), fun k hk => hk.elim⟩
  have hb0 : W8.cell? ⟨w6.heap.size, 0, none⟩ = some (.string ⟨T4.toArray⟩) := cell_of T8.1
  have HFS : Hid (a = (parD (⟨T4.toArray⟩ : ByteArray).data.toList).1) := by show _ = _; rw [show parD (⟨T4.toArray⟩ : ByteArray).data.toList = (a, a.length + 1) from HPA.out]
  clear g6 hcat1 hc2 hc3 hc4
  refine (wpIn_wide (n := 12)).1 ?_
  refine' wpIn_rangeD (by omega) (Bs := w6.heap.size) (s := ⟨T4.toArray⟩) (FS := a) rfl hb0 HZT.out HFS.out rfl
    (GfI w (w6.heap.size + 1) (.slice aa a.length ca)) (fun c pre W => False)
    (fun Q s A B row hs hg hr => hs.keep hN (fun k hk => hg.block k (by have := hs.size; omega) (fun e => by have := (hr k e.symm).1; omega)) hg.size hg.os hg.tape hg.output hs.q)
    (fun Q Q' s A B hs hm => hs.keep hN (fun k hk => hm.block k (by have := hs.size; omega) (fun hq => by have := hs.q k hq; omega)) hm.size hm.os hm.tape hm.output (fun k hk => by
      rcases hm.new k hk with h | h
      · exact hs.q k h
      · have := hs.size; omega))
    (fun c s A B row hs hg hr => hs)
    (fun Q s A hs => HE0.out.below hs.bel)
    h0
    (fun x Bx => { tmps := #[Value.slice aa a.length ca, Value.slice ab b.length cb, Value.int IntKind.i64 n, Value.pointer (some { block := w.heap.size, off := 0 }), undef, undef, Value.pointer (some { block := w.heap.size + 1, off := 0 }), Value.string { data := (drW a).toArray }, Value.int IntKind.i64 0, Value.string { data := (drW b).toArray }, Value.int IntKind.i64 0, Value.string { data := T4.toArray }, Value.slice ar 0 cr, Value.int IntKind.i64 90, Value.int IntKind.i64 (↑a.length + 1), Value.func (Fn.func 36) #[] #[Value.pointer (some { block := w6.heap.size, off := 0 })], Value.pointer (some { block := w6.heap.size + 1, off := 0 }), .pointer (some ⟨Bx, 0, none⟩), Value.slice aa a.length ca, Value.bool true, Value.bool false, Value.bool false, Value.slice ab b.length cb, Value.bool true, Value.bool false, Value.bool false, Value.tuple #[Value.string { data := (drW a).toArray }, Value.int IntKind.i64 0], Value.slice aa a.length ca, u1, Value.tuple #[Value.string { data := (drW a).toArray }, Value.int IntKind.i64 0], Value.string { data := (drW a).toArray }, Value.int IntKind.i64 0, Value.tuple #[Value.string { data := (drW b).toArray }, Value.int IntKind.i64 0], Value.slice ab b.length cb, u3, Value.tuple #[Value.string { data := (drW b).toArray }, Value.int IntKind.i64 0], Value.string { data := (drW b).toArray }, Value.int IntKind.i64 0, Value.int IntKind.i64 0, Value.bool false, Value.bool false, Value.int IntKind.i64 0, Value.bool false, Value.bool false, Value.string { data := (drW a).toArray }, Value.string { data := Ta.toArray }, Value.int IntKind.i64 n, Value.string { data := f.toArray }, Value.string { data := T2.toArray }, Value.string { data := T3.toArray }, Value.string { data := (drW b).toArray }, Value.string { data := T4.toArray }, Value.tuple #[Value.slice ar 0 cr, Value.int IntKind.i64 90, Value.int IntKind.i64 (↑a.length + 1)], Value.string { data := T4.toArray }, Value.tuple #[Value.slice ar 0 cr, Value.int IntKind.i64 90, Value.int IntKind.i64 (↑a.length + 1)], Value.slice ar 0 cr, Value.int IntKind.i64 90, Value.int IntKind.i64 (↑a.length + 1), Value.int IntKind.i64 90, Value.bool false, Value.bool false, Value.int IntKind.i64 (↑a.length + 1), Value.slice aa a.length ca, Value.int IntKind.i64 ↑a.length, Value.int IntKind.i64 (↑a.length + 1), Value.bool false, Value.bool false, Value.bool false, Value.slice ar 0 cr, Value.int IntKind.i64 0, Value.bool false, Value.bool false, Value.string { data := T4.toArray }, Value.func (Fn.func 36) #[] #[Value.pointer (some { block := w6.heap.size, off := 0 })], Value.func (Fn.func 36) #[] #[Value.pointer (some { block := w6.heap.size, off := 0 })], Value.bool false, Value.func (Fn.func 36) #[] #[Value.pointer (some { block := w6.heap.size, off := 0 })], .agg #[.bool x.1, x.2.1], undef, undef, undef, undef, undef, undef, undef, undef, undef, undef, undef, undef, undef, undef, undef, undef, undef, undef, undef, undef, undef, undef, undef, undef, undef, undef, undef, undef, undef, undef, undef], defers := [] }) ?assign ?body ?done ?stop
  case assign =>
    rintro l ⟨xd, xv, xl⟩ W K ⟨aa9, cc9, hx⟩ hK
    dsimp only at hx hK ⊢
    subst hx
    gi_wp2
    exact hK
  case body =>
    rintro l Qs pre ⟨xd, xv, xl⟩ S0 Bx W hI hq hpf hS0 hS0B hown hxq hxl hbx
    dsimp only at hown hxq hxl hbx ⊢
    obtain ⟨hlt, hat⟩ := pre_lt hpf
    dsimp only at hat
    have hsz := hI.size
    obtain ⟨a', c', e', _, _, hcell⟩ := (HA.out.below hI.bel).form
    have e3 : a' = aa ∧ c' = ca := by injection e' with q1 q2 q3; exact ⟨q1.symm, q3.symm⟩
    obtain ⟨rfl, rfl⟩ := e3
    obtain ⟨bw, ow, uw, rfl, hbw, hd, hl2, hr2⟩ := hcell _ hlt
    rw [hat] at hd hr2
    dsimp only at hd hr2
    have hx8 : xl.length * 8 ≤ 140737488351232 := by omega
    obtain ⟨av, cv, rfl⟩ := own_form hown
    obtain ⟨ya, yc, hy, _⟩ := hr2.form
    have HQ : Hid (∀ k, Calls Tryd.prog 18 #[.slice av xl.length cv, uw] (W.drewN k) fun e w'' => e = .returned (.bool true) ∧ ∃ m, w'' = W.drewN m) := fun k => by
      have h1 := sameIntsQ_any _ uw xl xl (W.drewN k) ((hown.rd hx8).below (below_drewN _ _)) (hr2.below (below_drewN _ _))
      rw [show (xl == xl) = true from beq_self_eq_true xl] at h1
      exact h1.mono fun e w' ⟨q1, m, q2⟩ => ⟨q1, k + m, by rw [q2, World.drewN_drewN]⟩
    subst hy
    have g0 := cell_of hI.nb
    have gf := frozen_of hI.nb
    have g2 := cell_of hI.wb
    have x0 := hbx.c0
    have x1 := hbx.c1
    have HI : Hid (GfI w (w6.heap.size + 1) (.slice (some ⟨bw, ow, none⟩) a.length c') Qs pre W) := hI
    have HLn : Hid ((pre ++ [((xd, Value.slice av xl.length cv, xl) : SV)]).length = pre.length + 1) := by show _ = _; simp
    have hpl : pre.length ≤ 4398046510976 := by omega
    clear hcell e' hr2 hown hxq hI hbx hat hpf T8 h0 hb0 b8 B8 tb1 tb2
    generalize pre.length = m at *
    gi_wp2_with fail
    refine region_quietR (by kernel_rfl) (by kernel_rfl) (by kernel_rfl) ?_
    repeat (refine wpQuietIn_step (fun _ _ _ _ => trivial) (fun Kqz hKqz => ?_); go_simp; first | (refine hKqz _ ?_; clear hKqz Kqz) | (apply Exists.intro; refine ⟨fun _ => ?_, hKqz _ ?_⟩; (first | (gi_at_call 18; exact CallsIn.inRound l (callsIn_wide.2 (HQ.out _)))); clear hKqz Kqz))
    refine wpQuietIn_nil ?_
    intro _ hwq1
    obtain ⟨nq, hwq2⟩ := hwq1
    subst hwq2
    simp only [show decide (a.length ≤ m) = false from decide_eq_false (by omega)]
    have y0 : (W.drewN nq).cell? ⟨w6.heap.size + 1, 0, none⟩ = some (.int .i64 (m : Nat)) := g0
    have yf : (W.drewN nq).frozen? ⟨w6.heap.size + 1, 0, none⟩ = false := gf
    have HF1 : Hid (∀ v, KeepsOthers W ((W.drewN nq).setCell ⟨w6.heap.size + 1, 0, none⟩ v)) := fun v => (keeps_below9 (below_drewN _ _)).trans (KeepsOthers.setCell _ _ _)
    have HF2 : Hid (∀ v, KpD Qs W ((W.drewN nq).setCell ⟨w6.heap.size + 1, 0, none⟩ v)) := fun v => HI.out.kpd nq v
    have HF3 : Hid (GfI w (w6.heap.size + 1) (.slice (some ⟨bw, ow, none⟩) a.length c') Qs (pre ++ [((xd, Value.slice av xl.length cv, xl) : SV)]) ((W.drewN nq).setCell ⟨w6.heap.size + 1, 0, none⟩ (.int .i64 ((m : Int) + 1)))) := HI.out.next hN nq HLn.out
    clear HQ hd hl2 g2 x0 x1 g0 gf HI
    generalize W.drewN nq = W9 at *
    gi_wp2
    exact ⟨HF1.out _, HF2.out _, HF3.out⟩
  case done =>
    rintro D Qs ys W hD hS hI hK
    have hn : ys.length = a.length := by rw [← hS, svS_len]
    have g0 : W.cell? ⟨w6.heap.size + 1, 0, none⟩ = some (.int .i64 (a.length : Nat)) := by rw [← hn]; exact cell_of hI.nb
    have g2 := cell_of hI.wb
    have g3 := cell_of hI.rb
    have g4 := frozen_of hI.rb
    have hB := hI.bel
    clear hI hS T8 h0 hb0 b8 B8 tb1 tb2
    go_wp2
    have k4 := World.cell?_setCell_same' W ⟨w.heap.size + 1, 0, none⟩ (.bool true) (by rw [g3]; rfl)
    have hK' := (KeepsOthers.setCell W ⟨w.heap.size + 1, 0, none⟩ (.bool true)).same D _ hK rfl
    refine ⟨by simp, .inl ⟨_, _, rfl, run_takeDeferred hK', ?_⟩⟩
    have gp := grownBy_putObj' (W.setCell ⟨w.heap.size + 1, 0, none⟩ (.bool true)) D (.deferred none)
    have bb : RowKit.Below w.heap.size w (W.setCell ⟨w.heap.size + 1, 0, none⟩ (.bool true)) := hB.setCell (p := ⟨w.heap.size + 1, 0, none⟩) (by show w.heap.size ≤ w.heap.size + 1; omega) _
    have hwl : w.heap.size + 1 < (W.setCell ⟨w.heap.size + 1, 0, none⟩ (.bool true)).heap.size := World.block_lt_of_cell? _ _ k4
    have k5 := (World.cell?_of_block (a := ⟨w.heap.size + 1, 0, none⟩) (gp.block (w.heap.size + 1) hwl (by simp; omega))).trans k4
    exact ⟨.bool true, by simp [results, Tryd.f7, go_sem, k5], rfl, ⟨gp.os.trans bb.os, gp.tape.trans bb.tape, gp.output.trans bb.output, Nat.le_trans bb.size gp.size, fun k hk => (gp.block k (by have := bb.size; omega) (by simp; omega)).trans (bb.block k hk)⟩⟩
  case stop =>
    rintro D c pre W hD hSp h hK
    exact h.elim
end dratForeign
end Go.Proofs.YtaipajalkendaaaDoor
