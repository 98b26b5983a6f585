/-
  depotlaw04.same, walked.
  KEEP: set on app at below new trans refl start ap kept rd rds mono own row cells lt box lo ml ms c0 f0 form max find eq ma some none more map keep mv c kill kst book step after block size cell alloc from same bx
-/
import Derived.Test.YtbhjpahieghepaaKAo3
import Derived.Test.YtbhjpahieghepaaKAp5
import Derived.Sort.AtCallIn
import Derived.Sort.CutIn
set_option linter.unusedSimpArgs false
set_option linter.unusedVariables false
namespace Go.Proofs.Ytbhjpahieghepaa
open Go Go.RowKit Go.Maps Go.Shelf

attribute [local go_sem] Oper.semAt_some

def noPanic4s (Q : Exit → Act → World → Prop) : Exit → Act → World → Prop
  | .panic _, _, _ => False
  | e, a, w => Q e a w
theorem calls_marks4s {P : Program} {f : FuncId} {fn : Func} {c : Code} {args : Array Value} {w : World} {R : Ending → World → Prop} (n : Nat) (hf : P.funcs[f]? = some fn) (hb : fn.body = some c)
    (h : c.wp P (noPanic4s (bodyPostM Fence.wide n P fn R)) { tmps := args ++ Array.replicate (fn.ntmps - args.size) undef, defers := [] } w) : Calls P f args w R :=
  callsIn_wide.1 (callsIn_of_wp_marks hf hb trivial (wpIn_wide.2 (wp_mono h (by intro e a w h; cases e <;> first | exact h | exact h.elim))))
theorem fn_nil5s (gf : Nat) (lb : Array Value) (w : World) : (binOp BinOp.eql 39 (Value.func (Fn.func gf) #[] lb) Value.nilFunc).run Try.prog w = .ok (.bool false) w := by rfl
theorem keeps_below4 {w w' : World} (h : Below w.heap.size w w') : KeepsOthers w w' := KeepsOthers.of_grownBy (grown_below h) (fun _ _ e _ => by cases e)
theorem res_cell4 {fn : Func} {p : Tmp} {tmps : Array Value} {W : World} {D1 : Nat} {x : Value} (h : fn.results = #[.cell p 4]) (hp : tmps.getD p undef = .pointer (some ⟨D1, 0, none⟩)) (h1 : W.cell? ⟨D1, 0, none⟩ = some x) : (results fn tmps).run Try.prog W = .ok x W := by
  have hp' : tmps[p]?.getD undef = .pointer (some ⟨D1, 0, none⟩) := by simpa using hp
  simp only [results, h]
  simp [go_sem, hp', h1]
/-- what stands between two rounds -/
structure Sm (w2 W : World) (n : Nat) : Prop where
  bel : Below w2.heap.size w2 W
  nb : W.heap[w2.heap.size]? = some (.cells #[.int .i64 (n : Int)] 3 (0, 0))
theorem Sm.below {w2 W W' : World} {n : Nat} (h : Sm w2 W n) (hb : Below W.heap.size W W') : Sm w2 W' n := ⟨Below.step h.bel hb, (hb.block _ (Array.getElem?_eq_some_iff.1 h.nb).1).trans h.nb⟩
theorem Sm.from {w2 : World} {n B : Nat} (hB : w2.heap.size + 1 ≤ B) : OwnFrom B (fun (_ : Unit) W => Sm w2 W n) := fun _ X Y row h hg hr =>
  ⟨⟨hg.os.trans h.bel.os, hg.tape.trans h.bel.tape, hg.output.trans h.bel.output, Nat.le_trans h.bel.size hg.size, fun k hk => (hg.block k (Nat.lt_of_lt_of_le hk h.bel.size) (fun e => by have := (hr k e.symm).1; omega)).trans (h.bel.block k hk)⟩, (hg.block _ (Array.getElem?_eq_some_iff.1 h.nb).1 (fun e => by have := (hr _ e.symm).1; omega)).trans h.nb⟩
theorem Sm.cell {w2 W : World} {n : Nat} (h : Sm w2 W n) : W.cell? ⟨w2.heap.size, 0, none⟩ = some (.int .i64 (n : Int)) ∧ W.frozen? ⟨w2.heap.size, 0, none⟩ = false := ⟨by simp [World.cell?, h.nb], by simp [World.frozen?, h.nb]⟩
theorem Sm.low {w2 W W' : World} {n B : Nat} (h : Sm w2 W n) (hb : Below B W W') (hB : w2.heap.size + 1 ≤ B) : Sm w2 W' n :=
  ⟨h.bel.trans (hb.mono (by omega)), (hb.block _ (by omega)).trans h.nb⟩
theorem own_write {B : Nat} {w : World} {g n cap k : Nat} {Z : List Int} (h : Own B w (.slice (some ⟨g, 0, none⟩) n cap) Z) (hn : Z.length = n) (hk : k < n) (y : Int) : Own B (w.setCell ⟨g, k, none⟩ (.int .i64 y)) (.slice (some ⟨g, 0, none⟩) n cap) (Z.set k y) ∧ (∃ u, w.cell? ⟨g, k, none⟩ = some u) ∧ w.frozen? ⟨g, k, none⟩ = false ∧ B ≤ g := by
  subst hn
  have hb := (World.ownsRow.lt h g rfl).1
  refine ⟨?_, ⟨_, own_cellsOf h rfl hk⟩, ?_, hb⟩
  · have := own_cell h (k := k) (by omega) (.int .i64 y)
    unfold Own
    rw [List.length_set, List.map_set]
    exact this
  · rcases h.2 with ⟨e, _⟩ | ⟨g', cap', cur, e, _, hh, _⟩
    · cases e
    · injection e with e1
      injection e1 with e1
      injection e1 with e1
      subst e1
      simp [World.frozen?, hh]
set_option maxRecDepth 100000 in
set_option maxHeartbeats 3200000 in
theorem same4_any (b B : Nat) (v wv : Value) (S : List Seg) (M : List Mt) (w : World) (h : Ar w b v S) (hl : (flat S).length ≤ 1099511627776) (hrow : w.ownsRow B 43 4 wv M.length (rowsM M)) (hM : ∀ x ∈ M, Own 0 w x.1 x.2.lits) (hMe : M.map (fun x => (x.2.pl, x.2.lits)) = rdL (lv 0 S)) :
    Calls Try.prog 6 #[.pointer (some ⟨b, 0, none⟩), wv] w fun e w' => e = .returned (.bool true) ∧ Below w.heap.size w w' := by
  obtain ⟨wa, wc, hwv⟩ := row_form4 hrow
  subst hwv
  refine calls_marks4s 12 Try.func6 rfl ?_
  simp only [Try.ntmps6, List.size_toArray, List.length_cons, List.length_nil, Nat.reduceAdd, Nat.reduceSub, Array.replicate_succ, Array.replicate_zero, List.push_toArray, List.append_toArray, List.nil_append, List.cons_append]
  go_wp2_with fail
  have hb2 : Below w.heap.size w ((w.alloc (.cells #[.slice wa M.length wc] 36)).alloc (.cells #[.bool false] 4)) := Below.step (below_box _ _) (below_box _ _)
  refine (live_any b v S _ (h.below hb2) (by omega) (by omega)).mono ?_
  rintro e w2 ⟨Bl, u, g, rfl, bx2, row2, lB, b2, hg2⟩
  have hnn := fn_nil5s 28 #[.pointer (some ⟨Bl, 0, none⟩)]
  obtain ⟨Qk, hQk⟩ : ∃ Qk : Nat → Prop, Qk = fun k => k = Bl ∨ u.ownBlock = some k ∨ (lv 0 S ≠ [] ∧ k = g) := ⟨_, rfl⟩
  have hvg : lv 0 S ≠ [] → v.ownBlock = some g := fun hne => by
    rcases hg2 with e | ⟨c, e⟩
    · rw [e] at hne; exact absurd rfl hne
    · rw [e]; rfl
  have hA2 := (h.below hb2).below b2
  have HQl : Hid (∀ k, Qk k → k < w2.heap.size) := fun k hk => by
    rw [hQk] at hk
    rcases hk with rfl | q | ⟨hne, rfl⟩
    · exact (Array.getElem?_eq_some_iff.1 bx2).1
    · exact (World.ownsRow.lt row2 k q).2
    · exact (World.ownsRow.lt hA2.own k (hvg hne)).2
  have hlvl := lv_len_le S 0
  have HSEQ : Hid (∀ n, 1 ≤ n → SeqW Fence.wide n Try.prog 28 #[.pointer (some ⟨Bl, 0, none⟩)] (fun x : Itl => #[.int .i64 x.1, x.2.1]) (fun m => VL m (rdL (lv 0 S))) (Kq Qk) (fun xs => xs.map Itl.proj = rdL (lv 0 S)) (fun pre => pre.map Itl.proj <+: rdL (lv 0 S)) w2) := fun n hn => by
    refine live_seqW n hn Bl g _ u (lv 0 S) w2 Qk (by rw [hQk]; exact .inl rfl) (fun k hk => by rw [hQk]; exact .inr (.inl hk)) (fun hne => by rw [hQk]; exact .inr (.inr ⟨hne, rfl⟩)) HQl.out bx2 row2 (fun k hk j hj => ?_) (fun k hk => ?_) (by omega)
    · have hne : lv 0 S ≠ [] := fun e => by rw [e] at hk; simp at hk
      obtain ⟨h1, h2⟩ := xt_at (Xt.refl S) (List.getElem_mem hk) hj
      rw [own_cellsOf hA2.own (hvg hne) h1, h2]
    · have hfj := lv_find (List.getElem_mem hk)
      rw [Int.sub_zero] at hfj
      have : (lv 0 S)[k].2.1.length ≤ (flat S).length := lits_le hfj
      omega
  have hbw : Below w.heap.size w w2 := Below.step hb2 b2
  have HBw : Hid (Below w.heap.size w w2) := hbw
  have HWb : Hid (w2.heap[w.heap.size]? = some (.cells #[.slice wa M.length wc] 36 (0, 0)) ∧ w2.heap[w.heap.size + 1]? = some (.cells #[.bool false] 4 (0, 0))) := by
    have e1 := World.alloc_heap_new w (.cells #[.slice wa M.length wc] 36)
    have e2 := World.alloc_heap_new (w.alloc (.cells #[.slice wa M.length wc] 36)) (.cells #[.bool false] 4)
    rw [World.size_alloc] at e2
    exact ⟨(b2.block _ (by simp; omega)).trans (at_on e1), (b2.block _ (by simp)).trans e2⟩
  have HRw : Hid (w2.ownsRow B 43 4 (.slice wa M.length wc) M.length (rowsM M) ∧ ∀ x ∈ M, Own 0 w2 x.1 x.2.lits) := ⟨row_kept4 hrow fun k e => hbw.block k (World.ownsRow.lt hrow k e).2, fun x hx => (hM x hx).below hbw⟩
  have HMe : Hid (M.map (fun x => (x.2.pl, x.2.lits)) = rdL (lv 0 S)) := hMe
  have HS0 : Hid (Sm w2 (w2.alloc (.cells #[.int .i64 0] 3)) 0) := ⟨below_box _ _, World.alloc_heap_new _ _⟩
  have HLi : Hid (∀ x ∈ lv 0 S, x.2.1.length ≤ (flat S).length) := fun x hx => by
    have hfj := lv_find hx
    rw [Int.sub_zero] at hfj
    exact lits_le hfj
  have HEG : Hid (∀ args W, (callFunc 28 args).run Try.prog W = .ok (.enter 28 args) W) := fun _ _ => rfl
  have hMl : M.length ≤ 1099511627776 := by
    have := congrArg List.length hMe
    simp only [rdL, List.length_map] at this
    omega
  have hsw : w.heap.size + 1 < w2.heap.size := (Array.getElem?_eq_some_iff.1 HWb.out.2).1
  clear bx2 row2 lB b2 hg2 hvg hQk hA2 hbw hb2 hrow hM h
  go_wp2
  refine (wpIn_wide (n := 12)).1 ?_
  refine' wpIn_rangeW rfl (by omega) (gf := 28) (lb := #[.pointer (some ⟨Bl, 0, none⟩)]) rfl trivial HEG.out (HSEQ.out (12 - 1) (by omega)) Kq.trans (fun W l o o' hl _ _ _ => Kq.putObj (Nat.le_trans (by simp) hl) HQl.out) (fun W o h => h.alloc o HQl.out) (Kq.of_below HS0.out.bel HQl.out) (fun _ => rfl)
    (fun pre W => Sm w2 W pre.length)
    (fun c pre W => False)
    (fun s X Y row h hg hr => Sm.from (by simp) () X Y row h hg hr)
    (fun c s A B row hs hg hr => hs)
    (fun m pre => VL_from _ _ _ pre)
    HS0.out
    _ ?assign ?body ?done ?stop
  case assign =>
    intro l x W K hK
    gi_wp2
    exact hK
  case stop =>
    rintro Dm c pre W hD hSp h hK
    exact h.elim
  case body =>
    rintro l' pre ⟨xp, xs, xl⟩ W0 W sm0 hsz hZ ⟨hpx, ho⟩
    dsimp only at ho
    have sm := hZ (fun W => Sm w2 W pre.length) (Sm.from (by simp)) sm0
    have hW0s : W0.heap.size ≤ W.heap.size := hZ (fun W => W0.heap.size ≤ W.heap.size) (fun _ X Y row h hg hr => Nat.le_trans h hg.size) (Nat.le_refl _)
    have hMe := HMe.out
    have hkM : pre.length < M.length := by
      have h5 := hpx.length_le
      have h6 := congrArg List.length hMe
      simp only [rdL, List.map_append, List.length_append, List.length_map, List.map_cons, List.map_nil, List.length_cons, List.length_nil] at h5 h6
      omega
    have hx : (M[pre.length].2.pl, M[pre.length].2.lits) = (xp, xl) := by
      have h5 : ((pre ++ [((xp, xs, xl) : Itl)]).map Itl.proj)[pre.length]? = some (xp, xl) := by
        rw [List.getElem?_map, List.getElem?_append_right (Nat.le_refl _), Nat.sub_self]
        rfl
      have h6 := (List.prefix_iff_getElem?.1 hpx) pre.length (by simp)
      rw [← hMe, List.getElem?_map, List.getElem?_eq_getElem hkM] at h6
      have h7 := List.getElem?_eq_getElem (l := (pre ++ [((xp, xs, xl) : Itl)]).map Itl.proj) (i := pre.length) (by simp)
      rw [h5] at h7
      rw [← h7] at h6
      exact Option.some.inj h6
    injection hx with hx1 hx2
    have hxl : xl.length ≤ (flat S).length := by
      have h5 : (xp, xl) ∈ rdL (lv 0 S) := by
        have h6 : Itl.proj (xp, xs, xl) ∈ (pre ++ [((xp, xs, xl) : Itl)]).map Itl.proj := List.mem_map_of_mem (by simp)
        exact hpx.subset h6
      unfold rdL at h5
      obtain ⟨y, hy, e⟩ := List.mem_map.1 h5
      injection e with e1 e2
      rw [← e2]
      exact HLi.out y hy
    obtain ⟨gw, hwa, d0, d1⟩ : ∃ gw, wa = some ⟨gw, 0, none⟩ ∧ W.cell? ⟨gw, pre.length * 4, none⟩ = some (.int .i64 xp) ∧ W.cell? ⟨gw, pre.length * 4 + 1, none⟩ = some M[pre.length].1 := by
      rcases HRw.out.1.2 with ⟨e, e2⟩ | ⟨gw, cap, cur, e, hb, hh, r⟩
      · omega
      · injection e with e1 e2 e3
        have hc := World.ownsRow.cells (show w2.ownsRow B 43 4 (.slice (some ⟨gw, 0, none⟩) M.length wc) M.length (rowsM M) from by rw [← e1]; exact HRw.out.1) (g := gw) rfl
        obtain ⟨r0, r1, -, -⟩ := rowsM_at hkM
        have a0 := hc _ _ r0
        have a1 := hc _ _ r1
        rw [Addr.add_lit, Nat.zero_add] at a0 a1
        have hlt : gw < w2.heap.size := (Array.getElem?_eq_some_iff.1 hh).1
        exact ⟨gw, e1, by rw [← hx1]; exact (sm.bel.cell (p := ⟨gw, pre.length * 4, none⟩) hlt).trans a0, (sm.bel.cell (p := ⟨gw, pre.length * 4 + 1, none⟩) hlt).trans a1⟩
    subst hwa
    have hoM := (HRw.out.2 _ (List.getElem_mem hkM)).below sm.bel
    rw [hx2] at hoM
    obtain ⟨la, lc, hla⟩ := own_form hoM
    rw [hla] at d1 hoM
    obtain ⟨ax, cx, hxs⟩ := own_form ho
    subst hxs
    have cb := sm.cell
    have HSm : Hid (Sm w2 W pre.length) := sm
    have cn := cb.1
    have cw : W.cell? ⟨w.heap.size, 0, none⟩ = some (.slice (some ⟨gw, 0, none⟩) M.length wc) := by
      have := (sm.bel.block _ (by omega)).trans HWb.out.1
      simp [World.cell?, this]
    have HE : Hid (Calls Try.prog 9 #[.slice ax xl.length cx, .slice la xl.length lc] W fun e w' => e = .returned (.bool true) ∧ Below W.heap.size W w') := by
      have h5 := requal4_any _ _ xl xl W (ho.rd (by omega)) (hoM.rd (by omega))
      rw [show (xl == xl) = true from beq_self_eq_true xl] at h5
      exact h5
    have HX : Hid (Own W0.heap.size W (.slice ax xl.length cx) xl) := ho
    have HLen : Hid ((pre ++ [((xp, .slice ax xl.length cx, xl) : Itl)]).length = pre.length + 1) := by show _ = _; simp
    have hsz' : w2.heap.size + 1 + 2 ≤ W0.heap.size := by simpa using hsz
    have HW0 : Hid (W0.heap.size ≤ W.heap.size) := hW0s
    have hbx : (xp == xp) = true := beq_self_eq_true _
    have hbn : (xp != xp) = false := by simp
    have hki : (pre.length : Int) < (M.length : Int) := by omega
    clear hpx hZ hMe hx1 hx2 hla hoM sm sm0 cb ho
    generalize pre.length = kp at *
    gi_wp2_with fail
    refine ⟨trivial, ?_⟩
    refine ((callsIn_wide.2 HE.out).inRound l').mono ?_
    rintro e w4 ⟨rfl, b4⟩
    have hW0 : W0.heap.size ≤ W.heap.size ∨ True := .inr trivial
    have HB4 : Hid (Below W0.heap.size W w4 ∧ KeepsOthers W w4) := ⟨b4.mono HW0.out, keeps_below4 b4⟩
    have HX4 : Hid (Own W0.heap.size w4 (.slice ax xl.length cx) xl) := HX.out.below b4
    have c4 := (HSm.out.below b4).cell.1
    clear b4 cn cw d0 d1 hW0
    gi_wp2
    gi_loopg [9] xl.length (fun q i wr => ∃ (k : Nat) (Z : List Int), k + q = xl.length ∧ i = .int .i64 k ∧ Z.length = xl.length ∧ Hid (Own W0.heap.size wr (.slice ax xl.length cx) Z) ∧ Hid (Below W0.heap.size W wr ∧ KeepsOthers W wr))
    case atStart => exact ⟨0, xl, by omega, rfl, rfl, HX4, HB4⟩
    case round =>
      obtain ⟨k, Z, hk, rfl, hZl, HOr, HBr⟩ := hrel
      have HK : Hid (k + gk = xl.length) := hk
      have HZl : Hid (Z.length = xl.length) := hZl
      have HSr : Hid (Sm w2 wr kp) := HSm.out.low HBr.out.1 (by omega)
      have cr := HSr.out.cell.1
      have fr := HSr.out.cell.2
      clear hk hZl c4
      by_cases hlt : k < xl.length
      · obtain ⟨gx, hgx, -⟩ := own_pos HOr.out (by have := HZl.out; omega)
        subst hgx
        obtain ⟨o5, ⟨u5, q5⟩, f5, l5⟩ := own_write HOr.out HZl.out hlt (6000000 + (kp : Int))
        have HLT : Hid (k < xl.length) := hlt
        have HN5 : Hid (Own W0.heap.size (wr.setCell ⟨gx, k, none⟩ (.int .i64 (6000000 + (kp : Int)))) (.slice (some ⟨gx, 0, none⟩) xl.length cx) (Z.set k (6000000 + (kp : Int))) ∧ (Z.set k (6000000 + (kp : Int))).length = xl.length ∧ Below W0.heap.size W (wr.setCell ⟨gx, k, none⟩ (.int .i64 (6000000 + (kp : Int)))) ∧ KeepsOthers W (wr.setCell ⟨gx, k, none⟩ (.int .i64 (6000000 + (kp : Int))))) := ⟨o5, by rw [List.length_set]; exact HZl.out, HBr.out.1.setCell (p := ⟨gx, k, none⟩) l5 _, HBr.out.2.trans (KeepsOthers.setCell _ _ _)⟩
        clear o5
        gi_wp2
        gi_roundg (gk - 1)
        case measure => have := HK.out; have := HLT.out; omega
        case rel => exact ⟨k + 1, _, by have := HK.out; have := HLT.out; omega, by go_num, HN5.out.2.1, HN5.out.1, HN5.out.2.2⟩
      · obtain rfl : k = xl.length := by have := HK.out; omega
        have HEnd : Hid (KeepsOthers W (wr.setCell ⟨w2.heap.size, 0, none⟩ (.int .i64 ((kp : Int) + 1))) ∧ Kq Qk W (wr.setCell ⟨w2.heap.size, 0, none⟩ (.int .i64 ((kp : Int) + 1))) ∧ Sm w2 (wr.setCell ⟨w2.heap.size, 0, none⟩ (.int .i64 ((kp : Int) + 1))) (pre ++ [((xp, .slice ax xl.length cx, xl) : Itl)]).length) := by
          have hg := grown_set wr ⟨w2.heap.size, 0, none⟩ (.int .i64 ((kp : Int) + 1))
          refine ⟨HBr.out.2.trans (KeepsOthers.setCell _ _ _), ⟨Nat.le_trans HBr.out.1.size hg.size, fun k hk => ?_⟩, ⟨?_, ?_⟩⟩
          · have hk' := HQl.out k hk
            exact (hg.block k (by have := HBr.out.1.size; have := HSr.out.bel.size; omega) (by intro e; have e' : k = w2.heap.size := (by simpa using e); omega)).trans (HBr.out.1.block k (by omega))
          · exact ⟨hg.os.trans HSr.out.bel.os, hg.tape.trans HSr.out.bel.tape, hg.output.trans HSr.out.bel.output, Nat.le_trans HSr.out.bel.size hg.size, fun k hk => (hg.block k (Nat.lt_of_lt_of_le hk HSr.out.bel.size) (by intro e; have e' : k = w2.heap.size := (by simpa using e); omega)).trans (HSr.out.bel.block k hk)⟩
          · rw [HLen.out]
            have := set_heap4 HSr.out.nb 0 (.int .i64 ((kp : Int) + 1))
            rw [this]
            simp
        clear hlt
        gi_wp2
        exact HEnd.out
  case done =>
    rintro Dm ys W3 hDm0 hS sm3 hK3
    have hDm9 : w2.heap.size + 1 ≤ Dm := by simpa using hDm0
    have hyl : ys.length = M.length := by
      have h5 := congrArg List.length hS
      have h6 := congrArg List.length HMe.out
      simp only [List.length_map] at h5 h6
      omega
    rw [hyl] at sm3
    have c0 := sm3.cell.1
    have c1 : W3.cell? ⟨w.heap.size, 0, none⟩ = some (.slice wa M.length wc) := by
      have := (sm3.bel.block _ (by omega)).trans HWb.out.1
      simp [World.cell?, this]
    have rb : W3.heap[w.heap.size + 1]? = some (.cells #[.bool false] 4 (0, 0)) := (sm3.bel.block _ hsw).trans HWb.out.2
    have c2 : W3.cell? ⟨w.heap.size + 1, 0, none⟩ = some (.bool false) := by simp [World.cell?, rb]
    have f2 : W3.frozen? ⟨w.heap.size + 1, 0, none⟩ = false := by simp [World.frozen?, rb]
    have hbe : ((M.length : Int) == (M.length : Int)) = true := beq_self_eq_true _
    have HEnd : Hid (Below w.heap.size w W3) := Below.step HBw.out sm3.bel
    have HK3 : Hid (W3.heap[Dm]? = some (.deferred (some []))) := hK3
    have HRb : Hid (W3.heap[w.heap.size + 1]? = some (.cells #[.bool false] 4 (0, 0))) := rb
    have hs3 : w2.heap.size ≤ W3.heap.size := sm3.bel.size
    clear hS hyl sm3 hK3 rb
    go_wp2
    have k1 := (KeepsOthers.setCell W3 ⟨w.heap.size + 1, 0, none⟩ (.bool true)).same Dm _ HK3.out rfl
    have k2 : (W3.setCell ⟨w.heap.size + 1, 0, none⟩ (.bool true)).heap[w.heap.size + 1]? = some (.cells #[.bool true] 4 (0, 0)) := set_heap4 HRb.out 0 (.bool true)
    refine ⟨by simp, .inl ⟨_, _, rfl, run_takeDeferred k1, ?_⟩⟩
    have hDm1 : w.heap.size + 1 ≠ Dm := by
      intro e
      rw [← e, k2] at k1
      cases k1
    have k3 := (World.putObj_heap_other (w := W3.setCell ⟨w.heap.size + 1, 0, none⟩ (.bool true)) (o := .deferred none) hDm1).trans k2
    refine ⟨_, res_cell4 rfl rfl (by simp only [World.cell?, k3]; rfl), rfl, ?_⟩
    exact (HEnd.out.setCell (p := ⟨w.heap.size + 1, 0, none⟩) (by simp) _).trans (belowK_b (w := w) (Nat.le_refl _) _ Dm _ _ (by omega) k1 rfl rfl)
end Go.Proofs.Ytbhjpahieghepaa
