/-
  joined: ModW Marks0 CntW
-/
import Derived.Test.YtnkmkbailifdoaaGreatDoorKIterM
import Derived.Test.YtnkmkbailifdoaaGreatDoorKTidyW
import Derived.Test.YtnkmkbailifdoaaGreatDoorKCopy
import Derived.Handy
import Derived.Laws.EntriesVeiled
set_option linter.unusedSimpArgs false
set_option linter.unusedVariables false
namespace Go.Proofs.YtnkmkbailifdoaaGreatDoor
open Go Go.RowKit Go.Shelf Go.Joins

/-- the models that Models gives -/
def modF (n : Int) (css : List (List Int)) : List (List Bool) := if frm n css && decide (n ≤ 16) then mods n.toNat css else []
theorem mods_tidy (n : Nat) (css : List (List Int)) (h : frm n css = true) : mods n (tdK css css.length) = mods n css := by
  unfold mods modsTo
  refine List.filter_congr ?_
  intro m hm
  obtain ⟨j, _, rfl⟩ := List.mem_map.1 hm
  refine sat_tidy (fun z hz => ?_)
  simp only [frm, Bool.and_eq_true] at h
  rw [bt_len]
  exact List.all_eq_true.1 h.2 z hz
/-- a sequence of models: what its contract says, in whatever world that keeps the blocks from lo on -/
def GivesB (lo : Nat) (R : List (List Bool)) (f : Value) (w : World) : Prop :=
  ∃ gf lb, f = .func (.func gf) #[] lb ∧ (∀ args w, (callFunc gf args).run Tryz.prog w = .ok (.enter gf args) w) ∧
    ∀ k, 1 ≤ k → ∀ N, SeqN Fence.wide k Tryz.prog gf lb (fun x : Itb => #[x.1]) (VB R) (Mid lo w.heap.size) (fun xs => xs.map Prod.snd = R) (fun pre => pre.map Prod.snd <+: R) N w
theorem ownsRow_within {base lo hi : Nat} {e size : Nat} {w w' : World} {v : Value} {n : Nat} {xs : List Value} (h : w.ownsRow base e size v n xs) (hm : Mid lo hi w w') (hl : lo ≤ base) (hh : w.heap.size ≤ hi) : w'.ownsRow base e size v n xs := by
  refine ⟨h.1, ?_⟩
  rcases h.2 with hn | ⟨g, cap, cur, hv, hb', hg, r⟩
  · exact .inl hn
  · exact .inr ⟨g, cap, cur, hv, hb', by rw [hm.block g (Nat.le_trans hl hb') (Nat.lt_of_lt_of_le (Array.getElem?_eq_some_iff.1 hg).1 hh)]; exact hg, r⟩
theorem OwnF.within {base lo hi : Nat} {w w' : World} {s : Value} {css : List (List Int)} (h : OwnF base w s css) (hm : Mid lo hi w w') (hl : lo ≤ base) (hh : w.heap.size ≤ hi) : OwnF base w' s css := by
  obtain ⟨L, hL, rfl⟩ := h
  exact ⟨L, ⟨ownsRow_within hL.row hm hl hh, fun x hx => ownsRow_within (hL.own x hx) hm hl hh, hL.ap⟩, rfl⟩

set_option maxHeartbeats 1600000 in
theorem none_in (k l : Nat) (W : World) : CallsIn Fence.wide k Tryz.prog 22 #[.func (.yield l) #[] #[]] W fun e W' => (∃ v, e = .returned v) ∧ W' = W := by
  refine callsIn_of_wp Tryz.func22 rfl trivial ?_ rfl
  simp only [Tryz.ntmps22, List.size_toArray, List.length_cons, List.length_nil, Nat.reduceAdd, Nat.reduceSub, Array.replicate_succ, Array.replicate_zero, List.push_toArray, List.append_toArray, List.nil_append, List.cons_append]
  gi_wp2
  go_end0
  exact ⟨⟨_, rfl⟩, rfl⟩
theorem gives_none (lo : Nat) (w : World) : GivesB lo [] (.func (.func 22) #[] #[]) w :=
  ⟨_, #[], rfl, enters_of Tryz.func22 (by kernel_rfl) rfl, fun k hk N l J Jx W hN hW hJ hJx hJ2 hY h0 => (none_in k l W).mono fun e W' ⟨hv, hw⟩ => ⟨hv, .inl ⟨[], rfl, by rw [hw]; exact h0⟩⟩⟩

set_option maxRecDepth 100000 in
set_option maxHeartbeats 1600000 in
theorem models_any (n : Int) (s : Value) (css : List (List Int)) (w : World) (hr : Rds w s css) (ht : Tens w) :
    Calls Tryz.prog 15 #[.agg #[.int .i64 n, s]] w fun e w' => ∃ f, e = .returned f ∧ GivesB w.heap.size (modF n css) f w' ∧ Below w.heap.size w w' := by
  have hl := hr.len
  have HX : Hid (Bx w n s css (w.alloc (.cells #[.int .i64 n, s] 24))) := Bx.new hr _
  have HT : Hid (Tens w) := ht
  have HB2 : Hid (Bx2 (w.alloc (.cells #[.int .i64 n, s] 24)) w.heap.size 24 (.int .i64 n) s) := Bx2.new _ _ _ _
  have H8 : Hid (∀ z ∈ css, z.length * 8 ≤ 140737488351232) := rds_each hr
  obtain ⟨a, c, rfl, hc, hm, _⟩ := hr.form
  clear hr ht
  cases hf : frm n css
  · have HR : Hid (modF n css = []) := by unfold modF Hid; rw [hf]; rfl
    go_enter Tryz.func15, Tryz.ntmps15
    go_wp2_with fail
    refine (cnfFormed_any n _ css _ HX.out.rd).mono ?_
    rw [hf]
    rintro e w1 ⟨rfl, bel1⟩
    have HX1 : Hid (Bx w n (.slice a css.length c) css w1) := HX.out.on bel1
    go_wp2
    go_ret
    exact ⟨_, rfl, by rw [HR.out]; exact gives_none _ _, HX1.out.bel⟩
  have HF : Hid (frm n css = true) := hf
  cases h16 : decide (n ≤ 16)
  · have HR : Hid (modF n css = []) := by unfold modF Hid; rw [h16]; simp
    have hgt : decide (16 < n) = true := by simp at h16 ⊢; omega
    go_enter Tryz.func15, Tryz.ntmps15
    go_wp2_with fail
    refine (cnfFormed_any n _ css _ HX.out.rd).mono ?_
    rw [hf]
    rintro e w1 ⟨rfl, bel1⟩
    have HX1 : Hid (Bx w n (.slice a css.length c) css w1) := HX.out.on bel1
    have c0 := HX1.out.c0
    go_wp2
    go_ret
    exact ⟨_, rfl, by rw [HR.out]; exact gives_none _ _, HX1.out.bel⟩
  have hgt : decide (16 < n) = false := by simp at h16 ⊢; omega
  have hn16 : n ≤ 16 := of_decide_eq_true h16
  have HN : Hid (n ≤ 16) := hn16
  go_enter Tryz.func15, Tryz.ntmps15
  go_wp2_with fail
  refine (cnfFormed_any n _ css _ HX.out.rd).mono ?_
  rw [hf]
  rintro e w1 ⟨rfl, bel1⟩
  have HX1 : Hid (Bx w n (.slice a css.length c) css w1) := HX.out.on bel1
  have c0 := HX1.out.c0
  have c1 := HX1.out.c1
  have b1 := HB2.out.below bel1
  clear HX hf h16 hn16 HB2
  go_wp2_with fail
  refine (cnfTidy_any n _ css w1 HX1.out.rd (HT.out.below HX1.out.bel)).mono ?_
  rw [show tdF n css = (n, tdK css css.length, 0) by unfold tdF; rw [HF.out]; rfl]
  rintro e w2 ⟨s', rfl, own2, bel2⟩
  obtain ⟨a2, c2, rfl⟩ := ownf_form own2
  have b2 := b1.below bel2
  have f0 := b2.f0
  have f1 := b2.f1
  have g0 := b2.c0
  have g1 := b2.c1
  have b3 := (b2.set0 (.int .i64 n)).set1 (.slice a2 (tdK css css.length).length c2)
  have own3 := (own2.set b2 (by decide) (by decide) 0 (.int .i64 n)).set (b2.set0 (.int .i64 n)) (by decide) (by decide) 1 (.slice a2 (tdK css css.length).length c2)
  have hs1 := b1.lt
  have HBel : Hid (Below w.heap.size w ((w2.setCell ⟨w.heap.size, 0, none⟩ (.int .i64 n)).setCell ⟨w.heap.size, 1, none⟩ (.slice a2 (tdK css css.length).length c2))) := below_set (below_set ((HX1.out.bel).trans (bel2.mono HX1.out.bel.size)) (Nat.le_refl _) _ _) (Nat.le_refl _) _ _
  have hln := tdK_len css css.length
  have H3 : Hid (OwnF w1.heap.size ((w2.setCell ⟨w.heap.size, 0, none⟩ (.int .i64 n)).setCell ⟨w.heap.size, 1, none⟩ (.slice a2 (tdK css css.length).length c2)) (.slice a2 (tdK css css.length).length c2) (tdK css css.length)) := own3
  have HB3 : Hid (Bx2 ((w2.setCell ⟨w.heap.size, 0, none⟩ (.int .i64 n)).setCell ⟨w.heap.size, 1, none⟩ (.slice a2 (tdK css css.length).length c2)) w.heap.size 24 (.int .i64 n) (.slice a2 (tdK css css.length).length c2)) := b3
  clear own2 own3 b3 b2 b1 c0 c1 bel2
  go_wp2
  go_ret
  generalize (w2.setCell ⟨w.heap.size, 0, none⟩ (.int .i64 n)).setCell ⟨w.heap.size, 1, none⟩ (.slice a2 (tdK css css.length).length c2) = w3 at *
  refine ⟨_, rfl, ?_, HBel.out⟩
  have hnr : 0 ≤ n := by have := HF.out; simp only [frm, Bool.and_eq_true, decide_eq_true_eq] at this; exact this.1.1
  have hn16 := HN.out
  obtain ⟨nn, rfl⟩ : ∃ nn : Nat, n = nn := ⟨n.toNat, by omega⟩
  have eR : modF nn css = mods nn (tdK css css.length) := by
    unfold modF; rw [HF.out, decide_eq_true hn16, mods_tidy nn css HF.out]; rfl
  rw [eR]
  refine ⟨_, _, rfl, enters_of Tryz.func24 (by kernel_rfl) rfl, fun k hk N l J Jx W hN hW hJ hJx hJ2 hY h0 => ?_⟩
  have hB := HB3.out
  have hlt := hB.lt
  have d0 := (hW.cell (p := ⟨w.heap.size, 0, none⟩) (Nat.le_refl _) hlt).trans hB.c0
  have d1 := (hW.cell (p := ⟨w.heap.size, 1, none⟩) (Nat.le_refl _) hlt).trans hB.c1
  exact iterM_in k hk l w.heap.size w.heap.size w3.heap.size nn N (by omega) _ (tdK css css.length) (frm_tidy HF.out) W hN J Jx hJ hJ2 hY (by rw [← hN]; exact hW.size) hlt (Nat.le_refl _) d0 d1
    (fun W' hm => (H3.out.within (hW.trans hm) (by omega) (Nat.le_refl _)).rds (by omega) (fun z hz => by obtain ⟨c', rfl⟩ := tdK_tid css _ z hz; have := tid_len c'; omega)) h0

end Go.Proofs.YtnkmkbailifdoaaGreatDoor
set_option linter.unusedSimpArgs false
set_option linter.unusedVariables false
namespace Go.Proofs.YtnkmkbailifdoaaGreatDoor
open Go Go.RowKit Go.Shelf

theorem box_new (w : World) (x : Value) (t : TypeId) : (w.alloc (.cells #[x] t)).cell? ⟨w.heap.size, 0, none⟩ = some x := by rw [World.cell?_alloc_at _ _ _ _ rfl]; rfl
theorem box_old {w : World} {a : Addr} {x : Value} (h : w.cell? a = some x) (o : Obj) : (w.alloc o).cell? a = some x := (World.grownBy_alloc w o none).cell h (by simp)
theorem frozen_old {w : World} {a : Addr} {x : Value} (h : w.cell? a = some x) (hf : w.frozen? a = false) (o : Obj) : (w.alloc o).frozen? a = false := (frozen_kept h (World.grownBy_alloc w o none) (fun r e => by cases e)).trans hf
/-- a post-condition under which nothing panics -/
def noPanic (Q : Exit → Act → World → Prop) : Exit → Act → World → Prop
  | .panic _, _, _ => False
  | e, a, w => Q e a w
theorem calls_marks {P : Program} {f : FuncId} {fn : Func} {c : Code} {args : Array Value} {w : World} {R : Ending → World → Prop} (n : Nat) (hf : P.funcs[f]? = some fn) (hb : fn.body = some c)
    (h : c.wp P (noPanic (bodyPostM Fence.wide n P fn R)) { tmps := args ++ Array.replicate (fn.ntmps - args.size) undef, defers := [] } w) : Calls P f args w R :=
  callsIn_wide.1 (callsIn_of_wp_marks hf hb trivial (wpIn_wide.2 (wp_mono h (by intro e a w h; cases e <;> first | exact h | exact h.elim))))
theorem keeps_below {w w' : World} (h : Below w.heap.size w w') : KeepsOthers w w' := KeepsOthers.of_grownBy (grown_below h) (fun _ _ e _ => by cases e)
/-- a box of one cell -/
def B1 (W : World) (D : Nat) (v : Value) : Prop := ∃ t, W.heap[D]? = some (.cells #[v] t (0, 0))
theorem B1.c {W : World} {D : Nat} {v : Value} (h : B1 W D v) : W.cell? ⟨D, 0, none⟩ = some v := by obtain ⟨t, h⟩ := h; simp [World.cell?, h]
theorem B1.f {W : World} {D : Nat} {v : Value} (h : B1 W D v) : W.frozen? ⟨D, 0, none⟩ = false := by obtain ⟨t, h⟩ := h; simp [World.frozen?, h]
theorem B1.lt {W : World} {D : Nat} {v : Value} (h : B1 W D v) : D < W.heap.size := by obtain ⟨t, h⟩ := h; exact (Array.getElem?_eq_some_iff.1 h).1
theorem B1.new (W : World) (t : TypeId) (v : Value) : B1 (W.alloc (.cells #[v] t)) W.heap.size v := ⟨t, World.alloc_heap_new W _⟩
theorem B1.kept {W W' : World} {row : Option Nat} {D : Nat} {v : Value} (h : B1 W D v) (hg : W.grownBy W' row) (hne : some D ≠ row) : B1 W' D v := by
  have hl := h.lt
  obtain ⟨t, h⟩ := h; exact ⟨t, (hg.block D hl hne).trans h⟩
theorem B1.below {W W' : World} {D : Nat} {v : Value} (h : B1 W D v) (hb : Below W.heap.size W W') : B1 W' D v := h.kept (grown_below hb) (by simp)
theorem B1.set {W : World} {D : Nat} {v : Value} (h : B1 W D v) (u : Value) : B1 (W.setCell ⟨D, 0, none⟩ u) D u := by
  obtain ⟨t, h⟩ := h
  refine ⟨t, ?_⟩
  rw [Joins.block_setCell h]; rfl
/-- it stays while marks of loops are put and blocks are made -/
theorem B1.own {β : Type} (B D : Nat) (v : β → Value) : OwnFrom B (fun (s : β) W => B1 W D (v s)) := fun s A A' row h hg hr => h.kept hg (by
  intro e
  obtain ⟨_, o, ho, hc⟩ := hr D e.symm
  obtain ⟨t, h⟩ := h
  rw [h] at ho; cases ho
  simp [Obj.isCells] at hc)
theorem below_grown {B : Nat} {w A A' : World} {row : Option Nat} (h : Below B w A) (hg : A.grownBy A' row) (hs : B ≤ A.heap.size) (hr : ∀ r, row = some r → B ≤ r) : Below B w A' := h.grown hg hs hr
theorem own_below {β : Type} {B C : Nat} {w : World} (hC : B ≤ C) (hs : B ≤ w.heap.size) : OwnFrom C (fun (_ : β) W => Below B w W) := fun s A A' row h hg hr => h.grown hg (Nat.le_trans hs h.size) (fun r e => by have := (hr r e).1; omega)

end Go.Proofs.YtnkmkbailifdoaaGreatDoor
set_option linter.unusedSimpArgs false
set_option linter.unusedVariables false
namespace Go.Proofs.YtnkmkbailifdoaaGreatDoor
open Go Go.RowKit Go.Shelf

attribute [local go_sem] Oper.semAt_some

/-- the error of Count -/
def cntE (n : Int) (css : List (List Int)) : Int := if frm n css then (if 16 < n then 4 else 0) else 1
theorem mods_len (n : Nat) (css : List (List Int)) : (mods n css).length ≤ 2 ^ n := by
  unfold mods modsTo
  refine Nat.le_trans (List.length_filter_le _ _) ?_
  simp
theorem modF_len (n : Int) (css : List (List Int)) : (modF n css).length ≤ 65536 := by
  unfold modF; split
  · rename_i h
    simp only [Bool.and_eq_true, decide_eq_true_eq] at h
    have h1 := mods_len n.toNat css
    have h2 : 2 ^ n.toNat ≤ 2 ^ 16 := Nat.pow_le_pow_right (by omega) (by omega)
    omega
  · simp

set_option maxRecDepth 100000 in
set_option maxHeartbeats 1600000 in
theorem cnfCount_any (n : Int) (s : Value) (css : List (List Int)) (w : World) (hr : Rds w s css) (ht : Tens w) :
    Calls Tryz.prog 8 #[.agg #[.int .i64 n, s]] w fun e w' => e = .returned (.tuple #[.int .i64 (modF n css).length, .int .i64 (cntE n css)]) ∧ Below w.heap.size w w' := by
  have HX : Hid (Bx w n s css (w.alloc (.cells #[.int .i64 n, s] 24))) := Bx.new hr _
  have HT : Hid (Tens w) := ht
  obtain ⟨a, c, rfl, hc, hm, _⟩ := hr.form
  clear hr ht
  cases hf : frm n css
  · have HR : Hid (modF n css = [] ∧ cntE n css = 1) := by unfold modF cntE Hid; rw [hf]; exact ⟨rfl, rfl⟩
    go_enter Tryz.func8, Tryz.ntmps8
    go_wp2_with fail
    refine (cnfFormed_any n _ css _ HX.out.rd).mono ?_
    rw [hf]
    rintro e w1 ⟨rfl, bel1⟩
    have HX1 : Hid (Bx w n (.slice a css.length c) css w1) := HX.out.on bel1
    go_wp2
    go_returns
    rw [HR.out.1, HR.out.2]
    exact ⟨rfl, HX1.out.bel⟩
  have HF : Hid (frm n css = true) := hf
  cases h16 : decide (16 < n)
  case true =>
    have HR : Hid (modF n css = [] ∧ cntE n css = 4) := by
      have h : 16 < n := of_decide_eq_true h16
      unfold modF cntE Hid; rw [hf, decide_eq_false (by omega : ¬ n ≤ 16), if_pos h]; exact ⟨rfl, rfl⟩
    go_enter Tryz.func8, Tryz.ntmps8
    go_wp2_with fail
    refine (cnfFormed_any n _ css _ HX.out.rd).mono ?_
    rw [hf]
    rintro e w1 ⟨rfl, bel1⟩
    have HX1 : Hid (Bx w n (.slice a css.length c) css w1) := HX.out.on bel1
    have c0 := HX1.out.c0
    go_wp2
    go_returns
    rw [HR.out.1, HR.out.2]
    exact ⟨rfl, HX1.out.bel⟩
  have HE : Hid (cntE n css = 0) := by
    have h : ¬ 16 < n := of_decide_eq_false h16
    unfold cntE Hid; rw [hf, if_neg h]; rfl
  have hML := modF_len n css
  refine calls_marks 12 Tryz.func8 rfl ?_
  simp only [Tryz.ntmps8, List.size_toArray, List.length_cons, List.length_nil, Nat.reduceAdd, Nat.reduceSub, Array.replicate_succ, Array.replicate_zero, List.push_toArray, List.append_toArray, List.nil_append, List.cons_append]
  go_wp2_with fail
  refine (cnfFormed_any n _ css _ HX.out.rd).mono ?_
  rw [hf]
  rintro e w1 ⟨rfl, bel1⟩
  have HX1 : Hid (Bx w n (.slice a css.length c) css w1) := HX.out.on bel1
  have c0 := HX1.out.c0
  have hs1 : w.heap.size < w1.heap.size := World.block_lt_of_cell? w1 _ c0
  have HX2 : Hid (Bx w n (.slice a css.length c) css (w1.alloc (.cells #[.int .i64 0] 3))) := HX1.out.on (below_box _ _)
  have d0 := HX2.out.c0
  have d1 := HX2.out.c1
  have HN : Hid (B1 (w1.alloc (.cells #[.int .i64 0] 3)) w1.heap.size (.int .i64 0)) := B1.new _ _ _
  clear HX hf
  go_wp2_with fail
  refine (models_any n _ css _ HX2.out.rd (HT.out.below HX2.out.bel)).mono ?_
  rintro e w3 ⟨f, rfl, hg, bel3⟩
  have HX3 : Hid (Bx w n (.slice a css.length c) css w3) := HX2.out.on bel3
  have hN3 := HN.out.below bel3
  have HG : Hid (GivesB (w1.alloc (.cells #[.int .i64 0] 3)).heap.size (modF n css) f w3) := hg
  obtain ⟨gf, lb, rfl, -, -⟩ := hg
  clear HN d0 d1 c0 bel1 HX1 HX2
  have hsz3 : w1.heap.size + 1 ≤ w3.heap.size := by have := bel3.size; rwa [World.size_alloc] at this
  go_wp2
  obtain ⟨gf', lb', e', heg, hseq⟩ := HG.out
  cases e'
  have hB3 := HX3.out.bel
  refine (wpIn_wide (n := 12)).1 ?_
  refine' wpIn_rangeN rfl (by omega) (gf := gf) (lb := lb) rfl trivial heg (hseq (12 - 1) (by omega) _) Mid.trans (midK_b (Nat.le_refl _)) (fun W o h => h.alloc (Nat.le_refl _) o) (Mid.refl _ _ _) (fun _ => rfl)
    (fun pre W => B1 W w1.heap.size (.int .i64 (pre.length : Nat)) ∧ Below w.heap.size w W ∧ w3.heap.size ≤ W.heap.size)
    (fun c pre W => False)
    (OwnFrom.and (B1.own _ _ (fun s : List Itb => .int .i64 (s.length : Nat))) (OwnFrom.and (own_below (by omega) (Nat.le_refl _)) (fun s A B row hs hg hr => Nat.le_trans hs hg.size)))
    (fun s A B h hg => ⟨h.1.kept hg (by intro e; have := Option.some.inj e; omega), below_grown h.2.1 hg h.2.1.size (fun r e => by cases e; omega), Nat.le_trans h.2.2 hg.size⟩)
    (fun c s A B row hs hg hr => hs)
    (fun m pre => VB.own _ _ _ pre)
    ⟨hN3, hB3, Nat.le_refl _⟩
    _ ?assign ?body ?done ?stop
  case assign =>
    intro l x W K hK
    gi_wp2
    exact hK
  case body =>
    rintro l pre ⟨xv, xm⟩ S0 W ⟨h1, h2, h3⟩ hsz hS0 ⟨hpx, -⟩
    have hpl := hpx.length_le
    simp only [List.map_append, List.length_append, List.length_map, List.map_cons, List.map_nil, List.length_cons, List.length_nil] at hpl
    have HL : Hid (((pre ++ [((xv, xm) : Itb)]).length : Int) = (pre.length : Int) + 1) := by show _ = _; simp
    have g0 := h1.c
    have g1 := h1.f
    have HB1 : Hid (B1 W w1.heap.size (.int .i64 (pre.length : Nat))) := h1
    clear hpx h1
    generalize pre.length = m at *
    gi_wp2
    refine ⟨KeepsOthers.setCell _ _ _, ⟨⟨by rw [World.size_setCell]; exact Nat.le_refl _, fun k q1 q2 => Below.heap_setCell _ _ _ _ (by show k ≠ w1.heap.size; have := bel3.size; rw [World.size_alloc] at this q1; omega)⟩, Below.heap_setCell _ _ _ _ (by show w3.heap.size + 2 ≠ w1.heap.size; omega)⟩, ?_, ?_, ?_⟩
    · rw [HL.out]; exact HB1.out.set _
    · exact h2.setCell (p := ⟨w1.heap.size, 0, none⟩) (by show w.heap.size ≤ w1.heap.size; omega) _
    · rw [World.size_setCell]; exact h3
  case done =>
    rintro D xs W hD hS ⟨h1, h2, h3⟩ hK
    have hn : xs.length = (modF n css).length := by have := congrArg List.length hS; simpa using this
    rw [hn] at h1
    have g0 := h1.c
    go_wp2
    refine ⟨by simp, .inl ⟨_, _, rfl, run_takeDeferred hK, ?_⟩⟩
    refine ⟨.tuple #[.int .i64 (modF n css).length, .int .i64 0], by simp [results, Tryz.f8, go_sem], ?_, h2.trans (belowK_b (w := w) (Nat.le_refl _) _ D _ _ (by omega) hK rfl rfl)⟩
    rw [HE.out]
  case stop =>
    rintro D c pre W hD hSp h hK
    exact h.elim

end Go.Proofs.YtnkmkbailifdoaaGreatDoor
