/-
  DratSteps, walked.
  KEEP: walk new at on app start below rdz form out len row own mono lt nb wb rb bel q keep size next kpd same block os tape output c f set of_grownBy setCell refl trans dd sz mq
-/
import Derived.Test.YtaipajalkendaaaDoorDrQx
import Derived.Test.YtaipajalkendaaaDoorPaR
set_option linter.unusedSimpArgs false
set_option linter.unusedVariables false
namespace Go.Proofs.YtaipajalkendaaaDoor.dratSteps
open Go Go.RowKit Go.Shelf Go.Lib Go.Sort Go.Proofs.YtaipajalkendaaaDoor
attribute [local go_sem] Oper.semAt_some


def one0 : ByteArray := ⟨#[49, 32, 48]⟩
theorem par_one : (parD one0.data.toList).1 = [(false, [1])] := by decide
theorem one_read (A : World) : RdZ (((A.alloc (.cells #[.int .i64 1] 3)).alloc (.cells #[.bool false, .slice (some ⟨A.heap.size, 0, none⟩) 1 1] 41))) (.slice (some ⟨A.heap.size + 1, 0, none⟩) 1 1) [(false, [1])] := by
  have b1 : (A.alloc (.cells #[.int .i64 1] 3)).heap[A.heap.size]? = some (.cells #[.int .i64 1] 3 (0, 0)) := World.alloc_heap_new A _
  have b2 := World.alloc_heap_new (A.alloc (.cells #[.int .i64 1] 3)) (.cells #[.bool false, .slice (some ⟨A.heap.size, 0, none⟩) 1 1] 41)
  rw [World.size_alloc] at b2
  have b3 : ((A.alloc (.cells #[.int .i64 1] 3)).alloc (.cells #[.bool false, .slice (some ⟨A.heap.size, 0, none⟩) 1 1] 41)).heap[A.heap.size]? = some (.cells #[.int .i64 1] 3 (0, 0)) := (Below.heap_alloc _ _ _ (by simp)).trans b1
  refine ⟨by simp, _, 1, rfl, Nat.le_refl _, by decide, fun _ => ⟨_, 0, rfl, by simp, fun j hj => ?_⟩⟩
  obtain rfl : j = 0 := by simp at hj; exact hj
  refine ⟨.slice (some ⟨A.heap.size, 0, none⟩) 1 1, by unfold World.cell?; dsimp only; simp only [List.length_cons, List.length_nil, Nat.zero_add, Nat.zero_mul, Nat.add_zero]; rw [b2]; rfl, by unfold World.cell?; dsimp only; simp only [Nat.zero_add, Nat.zero_mul]; rw [b2]; rfl, by simp, _, 1, rfl, Nat.le_refl _, by decide, by simp, fun _ => ⟨_, 0, rfl, by simp; omega, fun j hj => ?_⟩⟩
  obtain rfl : j = 0 := by simp at hj; exact hj
  simp [World.cell?, b3]

set_option maxHeartbeats 6400000 in
set_option maxRecDepth 100000 in
theorem walk (s : ByteArray) (kk : Int) (w : World) (hwk : (Lit.int .i64 kk).wf = true) (hs0 : s.data.toList.length ≤ 1048576) (he : Env w) :
    Calls Tryd.prog 6 #[.string s, .int .i64 kk] w fun e w' => e = .returned (.bool true) ∧ RowKit.Below w.heap.size w w' := by
  have hs : s.size ≤ 1048576 := by rw [← ba_len]; exact hs0
  clear hs0
  have HE0 : Hid (Env w) := he
  have HSt := fun W => rSteps_any s W (by omega)
  have hlen := par_len s.data.toList
  rw [ba_len] at hlen
  obtain ⟨FS, hFS⟩ : ∃ FS, FS = (parD s.data.toList).1 := ⟨_, rfl⟩
  rw [← hFS] at HSt hlen
  have HFS : Hid (FS = (parD s.data.toList).1) := hFS
  have HLn : Hid (FS.length ≤ s.size ∧ ∀ x ∈ FS, x.2.length ≤ s.size) := hlen
  have hll : FS.length ≤ 1048576 := by omega
  have HSt : Hid (∀ W : World, Calls Tryd.prog 17 #[.string s] W fun e w' => ∃ v, e = .returned v ∧ OwnS W.heap.size w' v FS ∧ RowKit.Below W.heap.size W w') := HSt
  have HGv : Hid (∀ (W : World) (Bs : Nat) (u : Value), W.cell? ⟨Bs, 0, none⟩ = some (.string s) → RdZ W u FS → Env W → Calls Tryd.prog 15 #[.func (.func 36) #[] #[.pointer (some ⟨Bs, 0, none⟩)], u] W fun e w' => e = .returned (.bool true) ∧ RowKit.Below W.heap.size W w') := fun W Bs u h1 h2 h3 => gives9_any s Bs u W h1 (by omega) (by rw [← HFS.out]; exact h2) h3
  have hnil := func_nil9 36
  clear he hlen hFS
  refine calls_marks9 12 Tryd.func6 rfl ?_
  simp only [Tryd.ntmps6, List.size_toArray, List.length_cons, List.length_nil, Nat.reduceAdd, Nat.reduceSub, Array.replicate_succ, Array.replicate_zero, List.push_toArray, List.append_toArray, List.nil_append, List.cons_append]
  go_upto_region 1 with fail
  have cK : ((w.alloc (.cells #[.int .i64 kk] 3)).alloc (.cells #[.bool false] 4)).heap[w.heap.size]? = some (.cells #[.int .i64 kk] 3 (0, 0)) := (Below.heap_alloc _ _ _ (by simp)).trans (World.alloc_heap_new w _)
  have cR : ((w.alloc (.cells #[.int .i64 kk] 3)).alloc (.cells #[.bool false] 4)).heap[w.heap.size + 1]? = some (.cells #[.bool false] 4 (0, 0)) := by
    have := World.alloc_heap_new (w.alloc (.cells #[.int .i64 kk] 3)) (.cells #[.bool false] 4)
    rwa [World.size_alloc] at this
  have sz0 : ((w.alloc (.cells #[.int .i64 kk] 3)).alloc (.cells #[.bool false] 4)).heap.size = w.heap.size + 2 := by simp
  have B0 : RowKit.Below w.heap.size w ((w.alloc (.cells #[.int .i64 kk] 3)).alloc (.cells #[.bool false] 4)) := Below.step (below_box _ _) (below_box _ _)
  generalize ((w.alloc (.cells #[.int .i64 kk] 3)).alloc (.cells #[.bool false] 4)) = W0 at *
  go_wp2_with fail
  refine (HSt.out W0).mono ?_
  rintro e w1 ⟨u, rfl, own1, bel1⟩
  have RU : Hid (RdZ w1 u FS) := own1.rdz (by have := HLn.out.1; omega) (fun x hx => by have := HLn.out.2 x hx; omega)
  obtain ⟨au, cu, rfl⟩ := own1.form
  clear own1
  have cK1 := (bel1.block _ (by omega)).trans cK
  have cR1 := (bel1.block _ (by omega)).trans cR
  have s1 := bel1.size
  have B1 : RowKit.Below w.heap.size w w1 := Below.step B0 bel1
  clear cK cR bel1 B0
  go_wp2_with fail
  refine (stepsF9_any s _).mono ?_
  rintro e w2 ⟨rfl, rfl⟩
  go_wp2_with fail
  have TA := World.alloc_heap_new w1 (.cells #[.slice au FS.length cu] 42)
  have TB := World.alloc_heap_new (w1.alloc (.cells #[.slice au FS.length cu] 42)) (.cells #[.string s] 9)
  have TC := World.alloc_heap_new ((w1.alloc (.cells #[.slice au FS.length cu] 42)).alloc (.cells #[.string s] 9)) (.cells #[.func (.func 36) #[] #[.pointer (some ⟨w1.heap.size + 1, 0, none⟩)]] 37)
  simp only [World.size_alloc] at TB TC
  have TA2 := (Below.heap_alloc ((w1.alloc (.cells #[.slice au FS.length cu] 42)).alloc (.cells #[.string s] 9)) (.cells #[.func (.func 36) #[] #[.pointer (some ⟨w1.heap.size + 1, 0, none⟩)]] 37) w1.heap.size (by simp; omega)).trans ((Below.heap_alloc (w1.alloc (.cells #[.slice au FS.length cu] 42)) (.cells #[.string s] 9) w1.heap.size (by simp)).trans TA)
  have TB2 := (Below.heap_alloc ((w1.alloc (.cells #[.slice au FS.length cu] 42)).alloc (.cells #[.string s] 9)) (.cells #[.func (.func 36) #[] #[.pointer (some ⟨w1.heap.size + 1, 0, none⟩)]] 37) (w1.heap.size + 1) (by simp)).trans TB
  have BA : RowKit.Below w1.heap.size w1 (((w1.alloc (.cells #[.slice au FS.length cu] 42)).alloc (.cells #[.string s] 9)).alloc (.cells #[.func (.func 36) #[] #[.pointer (some ⟨w1.heap.size + 1, 0, none⟩)]] 37)) := Below.step (Below.step (below_box _ _) (below_box _ _)) (below_box _ _)
  have szA : (((w1.alloc (.cells #[.slice au FS.length cu] 42)).alloc (.cells #[.string s] 9)).alloc (.cells #[.func (.func 36) #[] #[.pointer (some ⟨w1.heap.size + 1, 0, none⟩)]] 37)).heap.size = w1.heap.size + 1 + 1 + 1 := by simp
  clear TA TB
  generalize (((w1.alloc (.cells #[.slice au FS.length cu] 42)).alloc (.cells #[.string s] 9)).alloc (.cells #[.func (.func 36) #[] #[.pointer (some ⟨w1.heap.size + 1, 0, none⟩)]] 37)) = A at *
  have AK := (BA.block _ (by omega)).trans cK1
  have AR := (BA.block _ (by omega)).trans cR1
  have RA : Hid (RdZ A (.slice au FS.length cu) FS) := RU.out.below BA
  have HBA : Hid (RowKit.Below w.heap.size w A) := Below.step B1 BA
  have HN8 := World.alloc_heap_new A (.cells #[.int .i64 0] 3)
  have B8 : RowKit.Below A.heap.size A (A.alloc (.cells #[.int .i64 0] 3)) := below_box _ _
  have sz8 : (A.alloc (.cells #[.int .i64 0] 3)).heap.size = A.heap.size + 1 := by simp
  rw [← szA]
  generalize A.alloc (.cells #[.int .i64 0] 3) = W8 at *
  have HA1 : Hid (A.heap[w1.heap.size + 1]? = some (.cells #[.string s] 9 (0, 0))) := TB2
  have HA0 : Hid (A.heap[w1.heap.size]? = some (.cells #[.slice au FS.length cu] 42 (0, 0))) := TA2
  have HA2 : Hid (A.heap[w1.heap.size + 1 + 1]? = some (.cells #[.func (.func 36) #[] #[.pointer (some ⟨w1.heap.size + 1, 0, none⟩)]] 37 (0, 0))) := TC
  have HAK : Hid (A.heap[w.heap.size]? = some (.cells #[.int .i64 kk] 3 (0, 0))) := AK
  have HAR : Hid (A.heap[w.heap.size + 1]? = some (.cells #[.bool false] 4 (0, 0))) := AR
  have h0 : GsI A (A.heap.size + 1) [] (fun _ => False) [] W8 := ⟨HN8, B8, fun k hk => hk.elim, (fun d hd => by cases hd), by omega⟩
  have hb0 : W8.cell? ⟨w1.heap.size + 1, 0, none⟩ = some (.string s) := cell_ofx ((B8.block _ (by omega)).trans TB2)
  have HszA : Hid (A.heap.size = w1.heap.size + 1 + 1 + 1) := szA
  have hs1 : w.heap.size + 2 ≤ w1.heap.size := by omega
  have hwA : w1.heap.size + 2 < A.heap.size := by omega
  clear TA2 TB2 TC BA AK AR cK1 cR1 B1 RU B8 HN8 HSt szA
  refine (wpIn_wide (n := 12)).1 ?_
  refine' wpIn_rangeD_brk (by omega) (Bs := w1.heap.size + 1) (s := s) (FS := FS) rfl hb0 (by omega) HFS.out rfl
    (GsI A (A.heap.size + 1) []) (GsE A (A.heap.size + 1) (fun m => m = FS.length ∨ (m : Int) = kk)) 0
    (fun Q => by rw [sz8]; exact GsI.own (Nat.le_refl _) (fun d hd => by cases hd)) (fun Q Q' s X Y hs hm => hs.mq (Nat.le_refl _) (fun d hd => by cases hd) hm) (by rw [sz8]; exact GsE.own (Nat.le_refl _)) (fun Q s X hs => HE0.out.below (Below.trans HBA.out (hs.bel.mono (by omega))))
    h0 (fun x Bx => { tmps := #[Value.string s, Value.int IntKind.i64 kk, undef, Value.pointer (some { block := w.heap.size, off := 0 }), Value.pointer (some { block := w.heap.size + 1, off := 0 }), Value.pointer (some { block := w1.heap.size, off := 0 }), Value.pointer (some { block := w1.heap.size + 1 + 1, off := 0 }), Value.pointer (some { block := A.heap.size, off := 0 }), .pointer (some ⟨Bx, 0, none⟩), undef, Value.string s, Value.slice au FS.length cu, Value.string s, Value.func (Fn.func 36) #[] #[Value.pointer (some { block := w1.heap.size + 1, off := 0 })], Value.func (Fn.func 36) #[] #[Value.pointer (some { block := w1.heap.size + 1, off := 0 })], Value.bool false, Value.func (Fn.func 36) #[] #[Value.pointer (some { block := w1.heap.size + 1, off := 0 })], .agg #[.bool x.1, x.2.1], undef, undef, undef, undef, undef, undef, undef, undef, undef, undef, undef, undef, undef, undef, undef, undef, undef, undef, undef, undef, undef, undef, undef, undef, undef, undef, undef, undef, undef, undef, undef, undef, undef, undef, undef, undef, undef, undef, undef, undef, undef, undef, undef, undef, undef, undef, undef, undef, undef, undef, undef, undef, undef, undef, undef, undef, undef, undef, undef, undef, undef, undef, undef, undef, undef, undef, undef, undef, undef, undef, undef, undef, undef, undef, undef, undef, undef, undef, undef, undef, undef, undef, undef, undef, undef, undef, undef, undef, undef, undef, undef, undef, undef, undef, undef, undef], defers := [] }) ?assign ?body ?done (fun a w h => h) ?behind
  case assign =>
    rintro l ⟨xd, xv, xl⟩ W K ⟨aa9, cc9, hx⟩ hK
    dsimp only at hx hK ⊢
    subst hx
    gi_wp2
    exact hK
  case body =>
    rintro l Qs pre ⟨xd, xv, xl⟩ S0 Bx W hI hq hpf hS0 hS0B hown hxq hxl hbx
    dsimp only at hown hxq hxl hbx ⊢
    obtain ⟨hlt, hat⟩ := pre_lt hpf
    dsimp only at hat
    have hsz := hI.sz
    obtain ⟨a', c', e', _, _, hcell⟩ := (RA.out.below hI.bel).form
    have e3 : a' = au ∧ c' = cu := by injection e' with q1 q2 q3; exact ⟨q1.symm, q3.symm⟩
    obtain ⟨rfl, rfl⟩ := e3
    obtain ⟨bw, ow, uw, rfl, hbw, hd, hl2, hr2⟩ := hcell _ hlt
    rw [hat] at hd hr2
    dsimp only at hd hr2
    have hx8 : xl.length * 8 ≤ 140737488351232 := by omega
    obtain ⟨av, cv, rfl⟩ := own_form hown
    obtain ⟨ya, yc, hy, _⟩ := hr2.form
    have HQ : Hid (∀ k, Calls Tryd.prog 18 #[.slice av xl.length cv, uw] (W.drewN k) fun e w'' => e = .returned (.bool true) ∧ ∃ m, w'' = W.drewN m) := fun k => by
      have h1 := sameIntsQ_any _ uw xl xl (W.drewN k) ((hown.rd hx8).below (below_drewN _ _)) (hr2.below (below_drewN _ _))
      rw [show (xl == xl) = true from beq_self_eq_true xl] at h1
      exact h1.mono fun e w' ⟨q1, m, q2⟩ => ⟨q1, k + m, by rw [q2, World.drewN_drewN]⟩
    subst hy
    have g0 := cell_ofx hI.nb
    have gf := frozen_ofx hI.nb
    have g2 := cell_ofx ((hI.bel.block _ (by omega)).trans HA0.out)
    have g3 := cell_ofx ((hI.bel.block _ (by omega)).trans HAK.out)
    have x0 := hbx.c0
    have x1 := hbx.c1
    have HI : Hid (GsI A (A.heap.size + 1) [] Qs pre W) := hI
    have HLn2 : Hid ((pre ++ [((xd, Value.slice av xl.length cv, xl) : SV)]).length = pre.length + 1) := by show _ = _; simp
    have hpl : pre.length ≤ 1048576 := by omega
    have HQW : Hid (∀ k, Qs k → k < W.heap.size) := fun k hk => by have := (hq k hk).2; have := hbx.lt; omega
    clear hcell e' hr2 hown hxq hI hbx hat hpf h0 hb0 hq
    generalize hpm : pre.length = m at *
    have HPM : Hid (pre.length = m) := hpm
    clear hpm
    gi_wp2_with fail
    refine region_quietR (by kernel_rfl) (by kernel_rfl) (by kernel_rfl) ?_
    repeat (refine wpQuietIn_step (fun _ _ _ _ => trivial) (fun Kqz hKqz => ?_); go_simp; first | (refine hKqz _ ?_; clear hKqz Kqz) | (apply Exists.intro; refine ⟨fun _ => ?_, hKqz _ ?_⟩; (first | (gi_at_call 18; exact CallsIn.inRound l (callsIn_wide.2 (HQ.out _)))); clear hKqz Kqz))
    refine wpQuietIn_nil ?_
    intro _ hwq1
    obtain ⟨nq, hwq2⟩ := hwq1
    subst hwq2
    simp only [show decide (FS.length ≤ m) = false from decide_eq_false (by omega)]
    have y0 : (W.drewN nq).cell? ⟨A.heap.size, 0, none⟩ = some (.int .i64 (m : Nat)) := g0
    have yf : (W.drewN nq).frozen? ⟨A.heap.size, 0, none⟩ = false := gf
    have yk : (W.drewN nq).cell? ⟨w.heap.size, 0, none⟩ = some (.int .i64 kk) := g3
    have HB9 : Hid (RowKit.Below W.heap.size W (W.drewN nq)) := below_drewN _ _
    clear HQ hd hl2 g2 x0 x1 g0 gf g3
    generalize W.drewN nq = W9 at *
    have HF1 : Hid (∀ v, KeepsOthers W (W9.setCell ⟨A.heap.size, 0, none⟩ v)) := fun v => (keeps_below9 HB9.out).trans (KeepsOthers.setCell _ _ _)
    have HF2 : Hid (∀ v, KpD Qs W (W9.setCell ⟨A.heap.size, 0, none⟩ v)) := fun v => HI.out.kpd (Nat.le_refl _) HB9.out HQW.out v
    have HF3 : Hid (GsI A (A.heap.size + 1) [] Qs (pre ++ [((xd, Value.slice av xl.length cv, xl) : SV)]) (W9.setCell ⟨A.heap.size, 0, none⟩ (.int .i64 ((m : Int) + 1)))) := HI.out.next (Nat.le_refl _) HB9.out HLn2.out
    by_cases heq : (m : Int) = kk
    · have HX : Hid (GsE A (A.heap.size + 1) (fun m => m = FS.length ∨ (m : Int) = kk) W9) := by
        have hlt9 : A.heap.size < W.heap.size := by omega
        exact ⟨⟨m, (HB9.out.block _ hlt9).trans (by rw [← HPM.out]; exact HI.out.nb), .inr heq⟩, HI.out.bel.trans (HB9.out.mono HI.out.bel.size), Nat.le_trans HI.out.sz HB9.out.size⟩
      have heq' : ((m : Int) == kk) = true := by simpa using heq
      have HK9 : Hid (KeepsOthers W W9) := keeps_below9 HB9.out
      clear HF1 HF2 HF3 heq
      gi_wp2
      exact ⟨HK9.out, rfl, HX.out⟩
    · have heq' : ((m : Int) == kk) = false := by simpa using heq
      gi_wp2
      exact ⟨HF1.out _, HF2.out _, HF3.out⟩
  case done =>
    rintro Qs xs W hS hI
    have hn : xs.length = FS.length := by rw [← hS, svS_len]
    exact ⟨⟨_, hI.nb, .inl hn⟩, hI.bel, hI.sz⟩
  case behind =>
    rintro D W hD ⟨⟨m, hnb, hm⟩, hbel, hsz⟩ hK
    have hszW : A.heap.size < W.heap.size := by omega
    have g0 := cell_ofx hnb
    have gf := frozen_ofx hnb
    have gK := cell_ofx ((hbel.block _ (by omega)).trans HAK.out)
    have gW := cell_ofx ((hbel.block _ (by omega)).trans HA0.out)
    have gS := cell_ofx ((hbel.block _ (by omega)).trans HA2.out)
    have HG1 : Hid (∀ V : World, RowKit.Below W.heap.size W V → Calls Tryd.prog 15 #[.func (.func 36) #[] #[.pointer (some ⟨w1.heap.size + 1, 0, none⟩)], .slice au FS.length cu] V fun e w' => e = .returned (.bool true) ∧ RowKit.Below V.heap.size V w') := fun V hV => by
      have hb := hbel.trans (hV.mono hbel.size)
      exact HGv.out V _ _ (cell_ofx ((hb.block _ (by omega)).trans HA1.out)) (RA.out.below hb) (HE0.out.below (Below.trans HBA.out (hb.mono (by omega))))
    have hD8 : A.heap.size + 1 ≤ D := by omega
    clear h0 hb0
    go_upto_region 12 with fail
    go_cut [62] from 48 to 62 (fun t wx => t = .bool false ∧ Hid (RowKit.Below W.heap.size W wx))
    case first =>
      by_cases hmk : (m : Int) = kk
      · have hq : ((m : Int) != kk) = false := by rw [bne, beq_iff_eq.2 hmk]; rfl
        go_wp2_with (go_at_call 15; refine (HG1.out _ (Below.refl _ _)).mono ?_; rintro e w5 ⟨rfl, bel5⟩)
        go_meet
        exact ⟨rfl, bel5⟩
      · have hmF : m = FS.length := by
          rcases hm with h | h
          · exact h
          · exact absurd h hmk
        have hq : ((m : Int) != kk) = true := by simpa [bne] using hmk
        have hq2 : ((m : Int) != (FS.length : Int)) = false := by rw [bne, beq_iff_eq.2 (by omega)]; rfl
        go_wp2_with (go_at_call 15; refine (HG1.out _ (Below.refl _ _)).mono ?_; rintro e w5 ⟨rfl, bel5⟩)
        go_meet
        exact ⟨rfl, bel5⟩
    case rest =>
    obtain ⟨rfl, HBc⟩ := hcut
    generalize wc = Wc at *
    have hszc : A.heap.size < Wc.heap.size := by have := HBc.out.size; omega
    have hnb2 := (HBc.out.block _ hszW).trans hnb
    have hK2 := (HBc.out.block D (Array.getElem?_eq_some_iff.1 hK).1).trans hK
    have hbel2 : RowKit.Below A.heap.size A Wc := hbel.trans (HBc.out.mono hbel.size)
    have g0c := cell_ofx hnb2
    have gfc := frozen_ofx hnb2
    have gSc := cell_ofx ((hbel2.block _ (by omega)).trans HA2.out)
    have HDlt : Hid (D < Wc.heap.size) := (Array.getElem?_eq_some_iff.1 hK2).1
    have HW3n : Hid ((Wc.setCell ⟨A.heap.size, 0, none⟩ (.int .i64 0)).heap[A.heap.size]? = some (.cells #[.int .i64 0] 3 (0, 0))) := by
      have := Joins.block_setCell (i := 0) hnb2 (.int .i64 0)
      show _ = _
      simpa using this
    have HW3b : Hid (RowKit.Below A.heap.size A (Wc.setCell ⟨A.heap.size, 0, none⟩ (.int .i64 0))) := hbel2.setCell (p := ⟨A.heap.size, 0, none⟩) (Nat.le_refl _) _
    have HW3d : Hid ((Wc.setCell ⟨A.heap.size, 0, none⟩ (.int .i64 0)).heap[D]? = some (.deferred (some []))) := (Below.heap_setCell _ ⟨A.heap.size, 0, none⟩ _ D (by show D ≠ A.heap.size; omega)).trans hK2
    have HW3s : Hid ((Wc.setCell ⟨A.heap.size, 0, none⟩ (.int .i64 0)).heap.size = Wc.heap.size) := World.size_setCell ..
    have gS3 : (Wc.setCell ⟨A.heap.size, 0, none⟩ (.int .i64 0)).cell? ⟨w1.heap.size + 1 + 1, 0, none⟩ = _ := cell_ofx ((HW3b.out.block _ (by omega)).trans HA2.out)
    clear g0 gf gK gW gS HG1 hnb hm hK hbel hnb2 hK2 hbel2 gSc
    go_wp2_with fail
    have HszM : Hid (Wc.heap.size ≤ (Wc.setCell ⟨A.heap.size, 0, none⟩ (.int .i64 0)).heap.size) := Nat.le_of_eq HW3s.out.symm
    have sz3 := HW3s.out
    have hMA : A.heap.size + 1 ≤ Wc.heap.size := by omega
    have hDM : ∀ d ∈ [D], d < Wc.heap.size := fun d hd => by
      obtain rfl : d = D := by simpa using hd
      exact HDlt.out
    have h0 : GsI A Wc.heap.size [D] (fun _ => False) [] (Wc.setCell ⟨A.heap.size, 0, none⟩ (.int .i64 0)) := ⟨HW3n.out, HW3b.out, fun k hk => hk.elim, fun d hd => by
      obtain rfl : d = D := by simpa using hd
      exact HW3d.out, HszM.out⟩
    have hb0 : (Wc.setCell ⟨A.heap.size, 0, none⟩ (.int .i64 0)).cell? ⟨w1.heap.size + 1, 0, none⟩ = some (.string s) := cell_ofx ((HW3b.out.block _ (by omega)).trans HA1.out)
    clear HW3n HW3b HW3d HW3s gS3 g0c gfc HBc
    generalize (Wc.setCell ⟨A.heap.size, 0, none⟩ (.int .i64 0)) = W3 at *
    refine (wpIn_wide (n := 12)).1 ?_
    refine' wpIn_rangeD (by omega) (Bs := w1.heap.size + 1) (s := s) (FS := FS) rfl hb0 (by omega) HFS.out rfl
      (GsI A Wc.heap.size [D]) (fun c pre W => False)
      (fun Q => by rw [sz3]; exact GsI.own hMA hDM) (fun Q Q' s X Y hs hm => hs.mq hMA hDM hm) (fun c s A B row hs hg hr => hs) (fun Q s X hs => HE0.out.below (Below.trans HBA.out (hs.bel.mono (by omega))))
      h0 (fun x Bx => { tmps := #[Value.string s, Value.int IntKind.i64 kk, undef, Value.pointer (some { block := w.heap.size, off := 0 }), Value.pointer (some { block := w.heap.size + 1, off := 0 }), Value.pointer (some { block := w1.heap.size, off := 0 }), Value.pointer (some { block := w1.heap.size + 1 + 1, off := 0 }), Value.pointer (some { block := A.heap.size, off := 0 }), undef, .pointer (some ⟨Bx, 0, none⟩), Value.string s, Value.slice au FS.length cu, Value.string s, Value.func (Fn.func 36) #[] #[Value.pointer (some { block := w1.heap.size + 1, off := 0 })], Value.func (Fn.func 36) #[] #[Value.pointer (some { block := w1.heap.size + 1, off := 0 })], Value.bool false, Value.func (Fn.func 36) #[] #[Value.pointer (some { block := w1.heap.size + 1, off := 0 })], undef, undef, undef, undef, undef, undef, undef, undef, undef, undef, undef, undef, undef, undef, undef, undef, undef, undef, undef, undef, undef, undef, undef, undef, undef, undef, undef, undef, undef, undef, undef, u48, u49, u50, u51, u52, u53, u54, u55, u56, u57, u58, u59, u60, u61, Value.bool false, Value.func (Fn.func 36) #[] #[Value.pointer (some { block := w1.heap.size + 1, off := 0 })], .agg #[.bool x.1, x.2.1], undef, undef, undef, undef, undef, undef, undef, undef, undef, undef, undef, undef, undef, undef, undef, undef, undef, undef, undef, undef, undef, undef, undef, undef, undef, undef, undef, undef, undef, undef, undef, undef, undef, undef, undef, undef, undef, undef, undef, undef, undef, undef, undef, undef, undef, undef, undef, undef, undef], defers := [] }) ?assign2 ?body2 ?done2 ?stop2
    case assign2 =>
      rintro l ⟨xd, xv, xl⟩ W K ⟨aa9, cc9, hx⟩ hK
      dsimp only at hx hK ⊢
      subst hx
      gi_wp2
      exact hK
    case body2 =>
      rintro l Qs pre ⟨xd, xv, xl⟩ S0 Bx W hI hq hpf hS0 hS0B hown hxq hxl hbx
      dsimp only at hown hxq hxl hbx ⊢
      obtain ⟨hlt, hat⟩ := pre_lt hpf
      dsimp only at hat
      have hsz := hI.sz
      obtain ⟨a', c', e', _, _, hcell⟩ := (RA.out.below hI.bel).form
      have e3 : a' = au ∧ c' = cu := by injection e' with q1 q2 q3; exact ⟨q1.symm, q3.symm⟩
      obtain ⟨rfl, rfl⟩ := e3
      obtain ⟨bw, ow, uw, rfl, hbw, hd, hl2, hr2⟩ := hcell _ hlt
      rw [hat] at hd hr2
      dsimp only at hd hr2
      have hx8 : xl.length * 8 ≤ 140737488351232 := by omega
      obtain ⟨av, cv, rfl⟩ := own_form hown
      obtain ⟨ya, yc, hy, _⟩ := hr2.form
      have HQ : Hid (∀ x, Calls Tryd.prog 18 #[.slice av xl.length cv, uw] (Wx W x) fun e w'' => e = .returned (.bool true) ∧ ∃ y, w'' = Wx W y) := fun x => by
        have h1 := sameIntsQ_any _ uw xl xl (Wx W x) ((hown.rd hx8).below x.be) (hr2.below x.be)
        rw [show (xl == xl) = true from beq_self_eq_true xl] at h1
        exact h1.mono fun e w' ⟨q1, m, q2⟩ => ⟨q1, ⟨w', by rw [q2]; exact Below.step x.be (below_drewN _ _)⟩, rfl⟩
      have HGx : Hid (∀ x, Calls Tryd.prog 15 #[.func (.func 36) #[] #[.pointer (some ⟨w1.heap.size + 1, 0, none⟩)], .slice (some ⟨bw, ow, none⟩) FS.length c'] (Wx W x) fun e w'' => e = .returned (.bool true) ∧ ∃ y, w'' = Wx W y) := fun x => by
        have hb : RowKit.Below A.heap.size A (Wx W x) := hI.bel.trans (x.be.mono hI.bel.size)
        exact (HGv.out (Wx W x) _ _ (cell_ofx ((hb.block _ (by omega)).trans HA1.out)) (RA.out.below hb) (HE0.out.below (Below.trans HBA.out (hb.mono (by omega))))).mono fun e w' ⟨q1, q2⟩ => ⟨q1, ⟨w', Below.step x.be q2⟩, rfl⟩
      subst hy
      have g0 := Wx.cell (cell_ofx hI.nb)
      have g2 := Wx.cell (cell_ofx ((hI.bel.block _ (by omega)).trans HA0.out))
      have g3 := Wx.cell (cell_ofx ((hI.bel.block _ (by omega)).trans HA2.out))
      have x0 := Wx.cell hbx.c0
      have x1 := Wx.cell hbx.c1
      have hd' := Wx.cell hd
      have hl2' := Wx.cell hl2
      have HI : Hid (GsI A Wc.heap.size [D] Qs pre W) := hI
      have HLn2 : Hid ((pre ++ [((xd, Value.slice av xl.length cv, xl) : SV)]).length = pre.length + 1) := by show _ = _; simp
      have hpl : pre.length ≤ 1048576 := by omega
      have HQW : Hid (∀ k, Qs k → k < W.heap.size) := fun k hk => by have := (hq k hk).2; have := hbx.lt; omega
      clear hcell e' hr2 hown hxq hI hbx hat hpf h0 hb0 hq hd hl2
      generalize hpm : pre.length = m at *
      have HPM : Hid (pre.length = m) := hpm
      clear hpm
      have hdec : decide (FS.length ≤ m) = false := decide_eq_false (by omega)
      gi_wp2_with fail
      haveI hne := xt_ne W
      refine region_quietX (by kernel_rfl) (by kernel_rfl) (by kernel_rfl) ?_
      repeat (refine wpQuietIn_step (fun _ _ _ _ => trivial) (fun Kqz hKqz => ?_); go_simp; first | (refine hKqz _ ?_; clear hKqz Kqz) | (apply Exists.intro; refine ⟨fun _ => ?_, hKqz _ ?_⟩; (first | (gi_at_call 18; exact CallsIn.inRound l (callsIn_wide.2 (HQ.out _))) | (gi_at_call 15; exact CallsIn.inRound l (callsIn_wide.2 (HGx.out _)))); clear hKqz Kqz))
      refine wpQuietIn_nil ?_
      intro _ hwq1
      obtain ⟨xq, hwq2⟩ := hwq1
      subst hwq2
      have HB9 : Hid (RowKit.Below W.heap.size W (Wx W xq)) := xq.be
      have y0 := g0 xq
      clear HQ HGx hd' hl2' g2 x0 x1 g0 g3
      generalize Wx W xq = W9 at *
      have yf : W9.frozen? ⟨A.heap.size, 0, none⟩ = false := frozen_ofx ((HB9.out.block _ (by omega)).trans HI.out.nb)
      have HF1 : Hid (∀ v, KeepsOthers W (W9.setCell ⟨A.heap.size, 0, none⟩ v)) := fun v => (keeps_below9 HB9.out).trans (KeepsOthers.setCell _ _ _)
      have HF2 : Hid (∀ v, KpD Qs W (W9.setCell ⟨A.heap.size, 0, none⟩ v)) := fun v => HI.out.kpd hMA HB9.out HQW.out v
      have HF3 : Hid (GsI A Wc.heap.size [D] Qs (pre ++ [((xd, Value.slice av xl.length cv, xl) : SV)]) (W9.setCell ⟨A.heap.size, 0, none⟩ (.int .i64 ((m : Int) + 1)))) := HI.out.next hMA HB9.out HLn2.out
      gi_wp2
      exact ⟨HF1.out _, HF2.out _, HF3.out⟩
    case done2 =>
      rintro D2 Qs ys W hD2 hS hI hK
      have hn : ys.length = FS.length := by rw [← hS, svS_len]
      have hnb := hI.nb
      rw [hn] at hnb
      have hbel := hI.bel
      have hKD := hI.dd D (by simp)
      have hsz := hI.sz
      have g0 := cell_ofx hnb
      have gW := cell_ofx ((hbel.block _ (by omega)).trans HA0.out)
      have gS := cell_ofx ((hbel.block _ (by omega)).trans HA2.out)
      have HB : Hid (RowKit.Below A.heap.size A W) := hbel
      clear hI hS h0 hb0 hnb hbel
      go_wp2_with fail
      refine (HGv.out W _ _ (cell_ofx ((HB.out.block _ (by omega)).trans HA1.out)) (RA.out.below HB.out) (HE0.out.below (Below.trans HBA.out (HB.out.mono (by omega))))).mono ?_
      rintro e w5 ⟨rfl, bel5⟩
      clear g0 gW gS
      go_wp2_with fail
      refine (stepsF9_any one0 w5).mono ?_
      rintro e w6 ⟨rfl, rfl⟩
      go_wp2_with fail
      have B5 : RowKit.Below A.heap.size A w5 := HB.out.trans (bel5.mono HB.out.size)
      have bl : Below w5.heap.size w5 (((w5.alloc (.cells #[.string one0] 9)).alloc (.cells #[.int .i64 1] 3)).alloc (.cells #[.bool false, .slice (some ⟨w5.heap.size + 1, 0, none⟩) 1 1] 41)) := Below.step (Below.step (below_box _ _) (below_box _ _)) (below_box _ _)
      have rz := one_read (w5.alloc (.cells #[.string one0] 9))
      simp only [World.size_alloc] at rz
      have hc : (((w5.alloc (.cells #[.string one0] 9)).alloc (.cells #[.int .i64 1] 3)).alloc (.cells #[.bool false, .slice (some ⟨w5.heap.size + 1, 0, none⟩) 1 1] 41)).cell? ⟨w5.heap.size, 0, none⟩ = some (.string one0) := by
        have b1 := (Below.heap_alloc ((w5.alloc (.cells #[.string one0] 9)).alloc (.cells #[.int .i64 1] 3)) (.cells #[.bool false, .slice (some ⟨w5.heap.size + 1, 0, none⟩) 1 1] 41) w5.heap.size (by simp; omega)).trans ((Below.heap_alloc _ _ _ (by simp)).trans (World.alloc_heap_new w5 (.cells #[.string one0] 9)))
        unfold World.cell?
        dsimp only
        rw [b1]
        rfl
      have E5 : Env w5 := HE0.out.below (Below.trans HBA.out (B5.mono (by omega)))
      refine (gives9_any one0 w5.heap.size _ _ hc (by decide) (by rw [par_one]; exact rz) (E5.below bl)).mono ?_
      rintro e w7 ⟨rfl, bel7⟩
      have B57 : RowKit.Below w5.heap.size w5 w7 := Below.step bl bel7
      have BW7 : RowKit.Below W.heap.size W w7 := Below.step bel5 B57
      have BA7 : RowKit.Below A.heap.size A w7 := HB.out.trans (BW7.mono HB.out.size)
      have hR := (BA7.block _ (by omega)).trans HAR.out
      have gR := cell_ofx hR
      have fR := frozen_ofx hR
      have hK7 : w7.heap[D2]? = some (.deferred (some [])) := (BW7.block D2 (Array.getElem?_eq_some_iff.1 hK).1).trans hK
      have hKD7 : w7.heap[D]? = some (.deferred (some [])) := (BW7.block D (Array.getElem?_eq_some_iff.1 hKD).1).trans hKD
      have BW : Hid (RowKit.Below w.heap.size w w7) := Below.trans HBA.out (BA7.mono (by omega))
      have hDD : D ≠ D2 := by have := HDlt.out; omega
      clear bel5 bel7 B57 BW7 BA7 bl rz hc E5 B5 hK hKD hR HB
      go_wp2
      have k4 := World.cell?_setCell_same' w7 ⟨w.heap.size + 1, 0, none⟩ (.bool true) (by rw [gR]; rfl)
      have hK' := (KeepsOthers.setCell w7 ⟨w.heap.size + 1, 0, none⟩ (.bool true)).same D2 _ hK7 rfl
      have hKD' := (KeepsOthers.setCell w7 ⟨w.heap.size + 1, 0, none⟩ (.bool true)).same D _ hKD7 rfl
      have bb : RowKit.Below w.heap.size w (w7.setCell ⟨w.heap.size + 1, 0, none⟩ (.bool true)) := BW.out.setCell (p := ⟨w.heap.size + 1, 0, none⟩) (by show w.heap.size ≤ w.heap.size + 1; omega) _
      have hwl : w.heap.size + 1 < (w7.setCell ⟨w.heap.size + 1, 0, none⟩ (.bool true)).heap.size := World.block_lt_of_cell? _ _ k4
      refine ⟨by simp, .inl ⟨_, _, rfl, run_takeDeferred hK', ?_⟩⟩
      have gp := grownBy_putObj' (w7.setCell ⟨w.heap.size + 1, 0, none⟩ (.bool true)) D2 (.deferred none)
      have k5 := (World.cell?_of_block (a := ⟨w.heap.size + 1, 0, none⟩) (gp.block (w.heap.size + 1) hwl (by simp; omega))).trans k4
      have hKD6 := (World.putObj_heap_other (w := w7.setCell ⟨w.heap.size + 1, 0, none⟩ (.bool true)) (o := .deferred none) hDD).trans hKD'
      refine ⟨by simp, .inl ⟨_, _, rfl, run_takeDeferred hKD6, ?_⟩⟩
      have gp2 := grownBy_putObj' ((w7.setCell ⟨w.heap.size + 1, 0, none⟩ (.bool true)).putObj D2 (.deferred none)) D (.deferred none)
      have k6 := (World.cell?_of_block (a := ⟨w.heap.size + 1, 0, none⟩) (gp2.block (w.heap.size + 1) (by have := gp.size; omega) (by simp; omega))).trans k5
      exact ⟨.bool true, by simp [results, Tryd.f6, go_sem, k6], rfl, ⟨gp2.os.trans (gp.os.trans bb.os), gp2.tape.trans (gp.tape.trans bb.tape), gp2.output.trans (gp.output.trans bb.output), Nat.le_trans bb.size (Nat.le_trans gp.size gp2.size), fun k hk => (gp2.block k (by have := bb.size; have := gp.size; omega) (by simp; omega)).trans ((gp.block k (by have := bb.size; omega) (by simp; omega)).trans (bb.block k hk))⟩⟩
    case stop2 =>
      rintro D c pre W hD hSp h hK
      exact h.elim
end Go.Proofs.YtaipajalkendaaaDoor.dratSteps
