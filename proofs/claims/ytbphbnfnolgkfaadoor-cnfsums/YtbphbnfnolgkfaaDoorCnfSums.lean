/-
  CnfSums, walked.
-/
import Derived.Test.YtbphbnfnolgkfaaDoorSumsP
import Derived.Sort.AtCallIn
import Derived.OwnWalkIn
import Derived.Sort.CutIn
set_option linter.unusedSimpArgs false
set_option linter.unusedVariables false
namespace Go.Proofs.YtbphbnfnolgkfaaDoor.cnfSums
open Go Go.RowKit Go.Shelf

theorem Hid.mk' {p : Prop} (h : p) : Hid p := h

attribute [local go_sem] Oper.semAt_some
attribute [-go_sem] Builtin.append_

set_option maxRecDepth 20000 in
theorem fn_not_nil (gf : Nat) (lb : Array Value) (w : World) : (binOp BinOp.eql 29 (Value.func (Fn.func gf) #[] lb) Value.nilFunc).run Tryd.prog w = .ok (.bool false) w := by rfl
theorem res_cell {fn : Func} {p : Tmp} {tmps : Array Value} {W : World} {D1 : Nat} {x : Value} (h : fn.results = #[.cell p 4]) (hp : tmps.getD p undef = .pointer (some ⟨D1, 0, none⟩)) (h1 : W.cell? ⟨D1, 0, none⟩ = some x) : (results fn tmps).run Tryd.prog W = .ok x W := by
  have hp' : tmps[p]?.getD undef = .pointer (some ⟨D1, 0, none⟩) := by simpa using hp
  simp only [results, h]
  simp [go_sem, hp', h1]
theorem row_slice2 {B K : Nat} {e : TypeId} {w : World} {x : Value} {xs : List Value} (h : w.ownsRow B e 1 x K xs) : ∃ a c, x = .slice a K c := by
  rcases h.2 with ⟨rfl, h0⟩ | ⟨g, cap, cur, rfl, _⟩
  · exact ⟨none, 0, by rw [h0]⟩
  · exact ⟨_, _, rfl⟩
theorem last_of {B k : Nat} {W : World} {av : Option Addr} {kv : Nat} {L : List Itb} (h : OwnM B W (.slice av L.length kv) L) (hk : L.length = k + 1) :
    ∃ g k1 u mu, (Value.slice av L.length kv) = .slice (some ⟨g, 0, none⟩) L.length k1 ∧ W.cell? ⟨g, k, none⟩ = some u ∧ OwnB B W u mu ∧ (mu ∈ L.map Prod.snd ∧ ∃ ps, L.map Prod.snd = ps ++ [mu]) := by
  rcases List.eq_nil_or_concat L with rfl | ⟨L', ⟨u, mu⟩, rfl⟩
  · simp at hk
  have hk' : k = L'.length := by simp at hk; omega
  subst hk'
  obtain ⟨row, each⟩ := h
  rcases id row.2 with ⟨e, h0⟩ | ⟨g, cap, cur, e, _⟩
  · rw [hk] at h0; omega
  · refine ⟨g, cap, u, mu, e, ?_, each (u, mu) (by simp), by simp, L'.map Prod.snd, by simp⟩
    rw [e] at row
    rw [World.ownsRow.cellAt row L'.length (by simp)]
    simp
theorem at_of {B k : Nat} {W : World} {av : Option Addr} {kv : Nat} {L : List Itb} (h : OwnM B W (.slice av L.length kv) L) (hk : k < L.length) :
    ∃ g u mu, av = some ⟨g, 0, none⟩ ∧ W.cell? ⟨g, k, none⟩ = some u ∧ OwnB B W u mu ∧ mu ∈ L.map Prod.snd ∧ (L.take (k + 1)).map Prod.snd = (L.take k).map Prod.snd ++ [mu] := by
  obtain ⟨row, each⟩ := h
  rcases id row.2 with ⟨e, h0⟩ | ⟨g, cap, cur, e, _⟩
  · omega
  · obtain ⟨rfl, rfl⟩ : av = some ⟨g, 0, none⟩ ∧ kv = cap := by injection e with q1 q2 q3; exact ⟨q1, q3⟩
    refine ⟨g, (L[k]).1, (L[k]).2, rfl, ?_, each _ (List.getElem_mem hk), List.mem_map.2 ⟨_, List.getElem_mem hk, rfl⟩, ?_⟩
    · rw [World.ownsRow.cellAt row k (by simpa using hk)]
      simp [hk]
    · rw [List.take_succ_eq_append_getElem hk, List.map_append]; rfl
/-- a round's end -/
theorem sums_fin {w2 w3 W w5 w6 Wa w7 : World} {v v' u : Value} {x : Itb} {L pre : List Itb} (hL : L.map Prod.snd = pre.map Prod.snd) (hB : Below w2.heap.size w2 W) (h5 : Below W.heap.size W w5) (h6 : Below w5.heap.size w5 w6) (hsz : w3.heap.size + 2 < W.heap.size) (hs3 : w2.heap.size + 1 ≤ w3.heap.size)
    (h : Ac w2.heap.size (w3.heap.size + 3) w6 v L) (hu : OwnB (w3.heap.size + 3) w6 u x.2) (hga : w6.grownBy Wa none) (own' : w7.ownsRow (w3.heap.size + 3) 32 1 v' (L.length + 1) (L.map Prod.fst ++ [u])) (hg : Wa.grownBy w7 v.ownBlock) :
    B1 w7 w2.heap.size v ∧ KeepsOthers W (w7.setCell ⟨w2.heap.size, 0, none⟩ v') ∧ (Mid (w2.alloc (.cells #[.slice none 0 0] 25)).heap.size w3.heap.size W (w7.setCell ⟨w2.heap.size, 0, none⟩ v') ∧ (w7.setCell ⟨w2.heap.size, 0, none⟩ v').heap[w3.heap.size + 2]? = W.heap[w3.heap.size + 2]?) ∧
      Below w2.heap.size w2 (w7.setCell ⟨w2.heap.size, 0, none⟩ v') ∧ w3.heap.size ≤ (w7.setCell ⟨w2.heap.size, 0, none⟩ v').heap.size ∧ AcS w2.heap.size (w3.heap.size + 3) (pre ++ [x]) (w7.setCell ⟨w2.heap.size, 0, none⟩ v') := by
  have hW6 : Below W.heap.size W w6 := h5.trans (h6.mono h5.size)
  have s6 := hW6.size
  obtain ⟨q1, q2, q3, q4, q5, q6⟩ := h.app (by omega) hga hu own' hg
  have hbk : ∀ k, k < W.heap.size → k ≠ w2.heap.size → k < w3.heap.size + 3 → (w7.setCell ⟨w2.heap.size, 0, none⟩ v').heap[k]? = W.heap[k]? := fun k a1 a2 a3 => (q5 k (by omega) a2 a3).trans (hW6.block k a1)
  refine ⟨q1, (keeps_below hW6).trans q3, ⟨⟨by omega, fun k a1 a2 => hbk k (by omega) (by simp at a1; omega) (by omega)⟩, hbk _ (by omega) (by omega) (by omega)⟩, q6 _ _ (Nat.le_refl _) (by have := hB.size; omega) (hB.trans (hW6.mono hB.size)), by omega, v', L ++ [(u, x.2)], by rw [List.map_append, List.map_append, hL]; rfl, q2⟩
theorem sums_step {w2 w3 W w5 w6 : World} {b : Nat} {v u : Value} {x : Itb} {L pre : List Itb} (hL : L.map Prod.snd = pre.map Prod.snd) (hB : Below w2.heap.size w2 W) (h5 : Below W.heap.size W w5) (h6 : Below w5.heap.size w5 w6) (hsz : w3.heap.size + 2 < W.heap.size) (hs3 : w2.heap.size + 1 ≤ w3.heap.size)
    (h : Ac w2.heap.size (w3.heap.size + 3) w5 v L) (hu : OwnBo b w6 u x.2) (hb : w3.heap.size + 3 ≤ b) (hl : L.length ≤ 65536) :
    ∃ a6 k6 a7 k7 w7, u = .slice a6 x.2.length k6 ∧ (Builtin.append_ #[25, 25] 25 #[v, .slice (some ⟨w6.heap.size, 0, none⟩) 1 1]).run Tryd.prog (w6.alloc (.cells #[.slice a6 x.2.length k6] 32)) = .ok (.slice a7 (L.length + 1) k7) w7 ∧
      w2.heap.size < w6.heap.size ∧ w6.cell? ⟨w2.heap.size, 0, none⟩ = some v ∧ w7.cell? ⟨w2.heap.size, 0, none⟩ = some v ∧ w7.frozen? ⟨w2.heap.size, 0, none⟩ = false ∧
      Hid (KeepsOthers W (w7.setCell ⟨w2.heap.size, 0, none⟩ (.slice a7 (L.length + 1) k7)) ∧ (Mid (w2.alloc (.cells #[.slice none 0 0] 25)).heap.size w3.heap.size W (w7.setCell ⟨w2.heap.size, 0, none⟩ (.slice a7 (L.length + 1) k7)) ∧ (w7.setCell ⟨w2.heap.size, 0, none⟩ (.slice a7 (L.length + 1) k7)).heap[w3.heap.size + 2]? = W.heap[w3.heap.size + 2]?) ∧
        Below w2.heap.size w2 (w7.setCell ⟨w2.heap.size, 0, none⟩ (.slice a7 (L.length + 1) k7)) ∧ w3.heap.size ≤ (w7.setCell ⟨w2.heap.size, 0, none⟩ (.slice a7 (L.length + 1) k7)).heap.size ∧ AcS w2.heap.size (w3.heap.size + 3) (pre ++ [x]) (w7.setCell ⟨w2.heap.size, 0, none⟩ (.slice a7 (L.length + 1) k7))) := by
  obtain ⟨i0, hi, hz0, hz1, hz2⟩ := info_parts infoBs
  have HA6 := h.below h6
  have hs5 := h5.size
  have hs6 := h6.size
  obtain ⟨a6, k6, rfl⟩ := row_slice2 hu
  have HO6 : OwnB (w3.heap.size + 3) w6 (.slice a6 x.2.length k6) x.2 := row_mono hu hb
  obtain ⟨v7, w7, hrun, own7, gr7, -⟩ := run_append_own (P := Tryd.prog) (w6.alloc (.cells #[.slice a6 x.2.length k6] 32)) (w3.heap.size + 3) 25 25 32 i0 (.slice none 0 0) 1 24 Tryd.underlying25 hi hz0 hz1 hz2 rfl (by decide) v L.length (L.map Prod.fst) (World.ownsRow.alloc HA6.om.row _) ⟨w6.heap.size, 0, none⟩ 1 1 [.slice a6 x.2.length k6] rfl (cell_one_new _ _ _) (by simp [Value.oneCell']) (by unfold maxLen; omega) (by omega) (by simp; omega)
  obtain ⟨a7, k7, rfl⟩ := row_slice2 own7
  have hfin := sums_fin hL hB h5 h6 hsz hs3 HA6 HO6 (World.grownBy_alloc _ _ none) own7 gr7
  exact ⟨a6, k6, a7, k7, w7, rfl, hrun, HA6.box.lt, HA6.box.c, hfin.1.c, hfin.1.f, hfin.2⟩
/-- the law's boxes -/
structure SU (w : World) (n : Int) (s : Value) (css : List (List Int)) (vm : Value) (ms : List Bool) (W : World) : Prop where
  bx : Bx w n s css W
  r : B1 W (w.heap.size + 1) (.bool false)
  m : RdB W vm ms
theorem SU.on {w : World} {n : Int} {s : Value} {css : List (List Int)} {vm : Value} {ms : List Bool} {W W' : World} (h : SU w n s css vm ms W) (hb : Below W.heap.size W W') : SU w n s css vm ms W' := ⟨h.bx.on hb, h.r.below hb, h.m.below hb⟩
theorem SU.new {w : World} {n : Int} {s : Value} {css : List (List Int)} {vm : Value} {ms : List Bool} (hr : Rds w s css) (hm : RdB w vm ms) :
    SU w n s css vm ms ((w.alloc (.cells #[.int .i64 n, s] 24)).alloc (.cells #[.bool false] 4)) := by
  have e2 := B1.new (w.alloc (.cells #[.int .i64 n, s] 24)) 4 (.bool false)
  simp only [World.size_alloc] at e2
  exact ⟨(Bx.new hr _).on (below_box _ _), e2, (hm.below (below_box _ _)).below (below_box _ _)⟩
theorem SU.out {w : World} {n : Int} {s : Value} {css : List (List Int)} {vm : Value} {ms : List Bool} {W : World} (h : SU w n s css vm ms W) (b : Bool) :
    (W.setCell ⟨w.heap.size + 1, 0, none⟩ (.bool b)).cell? ⟨w.heap.size + 1, 0, none⟩ = some (.bool b) ∧ Below w.heap.size w (W.setCell ⟨w.heap.size + 1, 0, none⟩ (.bool b)) :=
  ⟨(h.r.set _).c, below_set h.bx.bel (by omega) _ _⟩

set_option maxRecDepth 100000 in
set_option maxHeartbeats 3200000 in
theorem main (n : Int) (s vm : Value) (css : List (List Int)) (ms : List Bool) (w : World) (hr : Rds w s css) (hm : RdB w vm ms) (ht : Tens w) :
    Calls Tryd.prog 8 #[.agg #[.int .i64 n, s], vm] w fun e w' => e = .returned (.bool true) ∧ Below w.heap.size w w' := by
  have HU : Hid (SU w n s css vm ms ((w.alloc (.cells #[.int .i64 n, s] 24)).alloc (.cells #[.bool false] 4))) := SU.new hr hm
  have HT : Hid (Tens w) := ht
  obtain ⟨a, c, rfl, hc, hmx, _⟩ := hr.form
  obtain ⟨am, cm, rfl, -⟩ := hm.form
  obtain ⟨i0, hi, hz0, hz1, hz2⟩ := info_parts infoBs
  clear hr ht hm
  cases hce : decide (cntE n css = 0)
  · have HR : Hid (modF n css = []) := by
      show _ = _
      have h := of_decide_eq_false hce
      unfold cntE at h
      unfold modF
      cases hf : frm n css
      · rfl
      · rw [hf] at h
        by_cases hn : 16 < n
        · rw [decide_eq_false (by omega : ¬ n ≤ 16)]; rfl
        · rw [if_neg hn] at h; exact absurd rfl h
    have hne : (cntE n css == 0) = false := by simpa using hce
    clear hce
    go_enter Tryd.func8, Tryd.ntmps8
    go_wp2_with fail
    refine (awake_any _).mono ?_
    rintro e w1 ⟨rfl, bel1⟩
    have HU1 : Hid (SU w n (.slice a css.length c) css (.slice am ms.length cm) ms w1) := HU.out.on bel1
    have c0 := HU1.out.bx.c0
    have c1 := HU1.out.bx.c1
    clear HU bel1
    go_wp2_with fail
    refine (cnfCount_any n _ css w1 HU1.out.bx.rd (HT.out.below HU1.out.bx.bel)).mono ?_
    rw [HR.out]
    rintro e w2 ⟨rfl, bel2⟩
    have HU2 : Hid (SU w n (.slice a css.length c) css (.slice am ms.length cm) ms w2) := HU1.out.on bel2
    obtain ⟨o1, o2⟩ := HU2.out.out true
    have f1 := HU2.out.r.f
    have g1 := HU2.out.r.c
    generalize cntE n css = ce at *
    go_wp2
    exact bodyPost_ret (res_cell rfl rfl o1) rfl ⟨rfl, o2⟩
  have hce' : cntE n css = 0 := of_decide_eq_true hce
  have HCE : Hid (cntE n css = 0) := hce'
  clear hce'
  have HN16 : Hid (n ≤ 16) := by
    show _ ≤ _
    have h := HCE.out
    unfold cntE at h
    cases hf : frm n css
    · rw [hf] at h; simp at h
    · rw [hf] at h
      by_cases hn : 16 < n
      · simp [hn] at h
      · omega
  clear hce
  refine calls_marks 12 Tryd.func8 rfl ?_
  simp only [Tryd.ntmps8, List.size_toArray, List.length_cons, List.length_nil, Nat.reduceAdd, Nat.reduceSub, Array.replicate_succ, Array.replicate_zero, List.push_toArray, List.append_toArray, List.nil_append, List.cons_append]
  go_wp2_with fail
  refine (awake_any _).mono ?_
  rintro e w1 ⟨rfl, bel1⟩
  have HU1 : Hid (SU w n (.slice a css.length c) css (.slice am ms.length cm) ms w1) := HU.out.on bel1
  have c0 := HU1.out.bx.c0
  have c1 := HU1.out.bx.c1
  clear HU bel1
  go_wp2_with fail
  refine (cnfCount_any n _ css w1 HU1.out.bx.rd (HT.out.below HU1.out.bx.bel)).mono ?_
  rw [HCE.out]
  rintro e w2 ⟨rfl, bel2⟩
  have HU2 : Hid (SU w n (.slice a css.length c) css (.slice am ms.length cm) ms w2) := HU1.out.on bel2
  clear HU1 bel2 c0 c1
  have c0 := HU2.out.bx.c0
  have c1 := HU2.out.bx.c1
  have hw2 : w.heap.size + 1 < w2.heap.size := HU2.out.r.lt
  have HAl : Hid (B1 (w2.alloc (.cells #[.slice none 0 0] 25)) w2.heap.size (.slice none 0 0)) := B1.new _ _ _
  have hml := modF_len n css
  have HU2b : Hid (SU w n (.slice a css.length c) css (.slice am ms.length cm) ms (w2.alloc (.cells #[.slice none 0 0] 25))) := HU2.out.on (below_box _ _)
  have d0 := HU2b.out.bx.c0
  have d1 := HU2b.out.bx.c1
  clear c0 c1
  go_wp2_with fail
  refine (models_any n _ css _ HU2b.out.bx.rd (HT.out.below HU2b.out.bx.bel)).mono ?_
  rintro e w3 ⟨f, rfl, hg, bel3⟩
  have HG : Hid (GivesB (w2.alloc (.cells #[.slice none 0 0] 25)).heap.size (modF n css) f w3) := hg
  obtain ⟨gf, lb, rfl, -, -⟩ := hg
  have hnn := fn_not_nil gf lb w3
  have hs3 : w2.heap.size + 1 ≤ w3.heap.size := by have := bel3.size; simpa using this
  have hb23 : Below w2.heap.size w2 w3 := (below_box _ _).trans (bel3.mono (by simp))
  have hal3 := HAl.out.below bel3
  clear HAl HU2b d0 d1 bel3
  go_wp2
  obtain ⟨gf', lb', e', heg, hseq⟩ := HG.out
  cases e'
  refine (wpIn_wide (n := 12)).1 ?_
  refine' wpIn_rangeN rfl (by omega) (gf := gf) (lb := lb) rfl trivial heg (hseq (12 - 1) (by omega) _) Mid.trans (midK_b (Nat.le_refl _)) (fun W o h => h.alloc (Nat.le_refl _) o) (Mid.refl _ _ _) (fun _ => rfl)
    (fun pre W => Below w2.heap.size w2 W ∧ w3.heap.size ≤ W.heap.size ∧ AcS w2.heap.size (w3.heap.size + 3) pre W)
    (fun c pre W => False)
    (OwnFrom.and (own_below (by omega) (Nat.le_refl _)) (OwnFrom.and (fun s A B row hs hg hr => Nat.le_trans hs hg.size) (fun s A B row ⟨v, L, e, h⟩ hg hr => ⟨v, L, e, h.own hg (fun r e => (hr r e).2)⟩)))
    (fun s A B h hg => ⟨below_grown h.1 hg h.1.size (fun r e => by cases e; omega), Nat.le_trans h.2.1 hg.size, by obtain ⟨v, L, e, h'⟩ := h.2.2; exact ⟨v, L, e, h'.at hg (by omega) (by omega)⟩⟩)
    (fun c s A B row hs hg hr => hs)
    (fun m pre => VB.own _ _ _ pre)
    ⟨hb23, Nat.le_refl _, .slice none 0 0, [], rfl, hal3, World.ownsRow_nil _ _ _ _, fun x hx => (by cases hx)⟩
    _ ?assign ?body ?done ?stop
  case assign =>
    intro l x W K hK
    gi_wp2
    exact hK
  case body =>
    rintro l pre ⟨xv, xm⟩ S0 W ⟨h1, h2, v, L, hLp, hac⟩ hsz hS0 hV
    have hrdb : RdB W xv xm := hV.rd
    have hpx := hV.1
    have hmem : xm ∈ modF n css := hpx.subset (by simp)
    obtain ⟨⟨hxn, hx16⟩, hsat⟩ := mem_modF hmem
    have hpl := hpx.length_le
    have HUW : Hid (SU w n (.slice a css.length c) css (.slice am ms.length cm) ms W) := HU2.out.on h1
    have c0 := HUW.out.bx.c0
    have c1 := HUW.out.bx.c1
    obtain ⟨ax, cx, rfl, -⟩ := hrdb.form
    have HX : Hid (RdB W (.slice ax xm.length cx) xm) := hrdb
    have HAc : Hid (Ac w2.heap.size (w3.heap.size + 3) W v L) := hac
    have HLP : Hid (L.map Prod.snd = pre.map Prod.snd) := hLp
    have HPX : Hid ((pre ++ [((.slice ax xm.length cx, xm) : Itb)]).map Prod.snd <+: modF n css) := hpx
    have HXN : Hid ((xm.length : Int) = n) := hxn
    have hLl : L.length ≤ 65536 := by
      have e1 : L.length = pre.length := by have := congrArg List.length hLp; simpa using this
      rw [List.length_map, List.length_append] at hpl
      simp at hpl
      omega
    obtain ⟨av, kv, rfl⟩ : ∃ a c, v = .slice a L.length c := row_slice2 hac.om.row
    have HSat : Hid (Calls Tryd.prog 21 #[.agg #[.int .i64 n, .slice a css.length c], .slice ax xm.length cx] W fun e w' => e = .returned (.bool true) ∧ Below W.heap.size W w') := by
      have := cnfSatisfies_any n _ _ css xm W HUW.out.bx.rd hrdb
      rw [hsat] at this; exact this
    have HB : Hid (Below w2.heap.size w2 W) := h1
    have hsW2 := h1.size
    clear hV hpx hmem hsat hpl hrdb hac hLp hxn h1
    have HEnd : Hid (∀ w4, Below W.heap.size W w4 → True) := fun _ _ => trivial
    gi_wp2_with fail
    refine ⟨trivial, ?_⟩
    refine ((callsIn_wide.2 HSat.out).inRound l).mono ?_
    rintro e w4 ⟨rfl, bel4⟩
    have HA4 : Hid (Ac w2.heap.size (w3.heap.size + 3) w4 (.slice av L.length kv) L) := HAc.out.below bel4
    have HX4 : Hid (RdB w4 (.slice ax xm.length cx) xm) := HX.out.below bel4
    have c4 := HA4.out.box.c
    have f4 := HA4.out.box.f
    clear HSat HEnd
    have hs4 := bel4.size
    rcases (show L.length = 0 ∨ ∃ k, L.length = k + 1 from by rcases Nat.eq_zero_or_pos L.length with h | h; exact .inl h; exact .inr ⟨L.length - 1, by omega⟩) with h0 | ⟨k, hk⟩
    case' inl =>
      have HN0 : Hid (L.length = 0) := h0
      clear h0
      obtain ⟨w5, hw5⟩ : ∃ w5, w5 = w4 := ⟨_, rfl⟩
      subst hw5
      have HB5 : Hid (Below W.heap.size W w5) := bel4
      have HA5 := HA4
      have HX5 := HX4
      have hs5 := hs4
      clear bel4 HA4 HX4 hs4 HAc HX
      gi_upto_region 14 with (refine ⟨trivial, ?_⟩)
      all_goals first | (exfalso; have := HN0.out; omega) | skip
    case' inr =>
      obtain ⟨g, k1, u, mu, hav, hcu, hou, hmu⟩ := last_of HA4.out.om hk
      obtain ⟨rfl, rfl⟩ : av = some ⟨g, 0, none⟩ ∧ kv = k1 := by injection hav with q1 q2 q3; exact ⟨q1, q3⟩
      clear hav
      have hpx' := HPX.out
      rw [List.map_append, ← HLP.out] at hpx'
      have hmm : mu ∈ modF n css := hpx'.subset (List.mem_append_left _ hmu.1)
      obtain ⟨⟨hun, hu16⟩, -⟩ := mem_modF hmm
      have hrdu : RdB w4 u mu := OwnB.rd hou (by omega)
      obtain ⟨au, cu, rfl, -⟩ := hrdu.form
      have HLt : Hid (decide (num mu < num xm) = true) := by
        show _ = _
        obtain ⟨ps, hps⟩ := hmu.2
        rw [hps] at hpx'
        exact decide_eq_true (next_more hpx')
      have HBl : Hid (Calls Tryd.prog 22 #[.slice au mu.length cu, .slice ax xm.length cx] w4 fun e w' => e = .returned (.bool true) ∧ Below w4.heap.size w4 w') := by
        have := below_any _ _ mu xm w4 hrdu HX4.out (by have := HXN.out; omega)
        rw [HLt.out] at this; exact this
      have d : decide ((0 : Int) < (L.length : Int)) = true := decide_eq_true (by omega)
      have e1 : (L.length : Int) - 1 = (k : Int) := by omega
      have hkl : (k : Int) < (L.length : Int) := by omega
      have hkn : k < L.length := by omega
      have HBW : Hid (Below W.heap.size W w4) := bel4
      clear hk hpx' hmm hun hu16 hrdu hou hmu HLt bel4
      gi_wp2_with fail
      refine ⟨trivial, ?_⟩
      refine ((callsIn_wide.2 HBl.out).inRound l).mono ?_
      rintro e w5 ⟨rfl, bel5⟩
      have HA5 : Hid (Ac w2.heap.size (w3.heap.size + 3) w5 (.slice (some ⟨g, 0, none⟩) L.length kv) L) := HA4.out.below bel5
      have HX5 : Hid (RdB w5 (.slice ax xm.length cx) xm) := HX4.out.below bel5
      have HB5 : Hid (Below W.heap.size W w5) := HBW.out.trans (bel5.mono hs4)
      have hs5 := HB5.out.size
      clear c4 f4 HA4 HX4 hs4 HAc HX HBl HBW bel5
      have c4 := HA5.out.box.c
      have f4 := HA5.out.box.f
      clear hcu
      gi_upto_region 14 with fail
    all_goals
      have HCB : Hid (∀ w', Below w5.heap.size w5 w' → Calls Tryd.prog 23 #[.slice ax xm.length cx] w' fun e w'' => ∃ u, e = .returned u ∧ OwnBo w'.heap.size w'' u xm ∧ Below w'.heap.size w' w'') := fun w' hb => copyBools_any _ xm w' (HX5.out.below hb) (by omega)
      clear HX5
      gi_region_with (first
        | (refine ⟨trivial, ?_⟩; gi_at_call 23; refine ((callsIn_wide.2 (HCB.out _ (Below.refl _ _).drew)).inRound l).mono ?_; rintro e w6 ⟨u6, rfl, own6, bel6⟩; obtain ⟨a6, k6, a7, k7, w7, rfl, hrun, hlt6, c6, c7, f7, HF7⟩ := sums_step (pre := pre) (x := (.slice ax xm.length cx, xm)) HLP.out HB.out HB5.out (Below.step (Below.refl _ _).drew bel6) hsz hs3 HA5.out own6 (by simp only [World.drew]; omega) hLl; dsimp only at hrun HF7; clear own6 bel6))
      all_goals
        gi_wp2
        exact HF7.out
  case done =>
    rintro D xs W hD hS ⟨h1, h2, v, L, hLp, hac⟩ hK
    rw [hS] at hLp
    have hLn : (modF n css).length = L.length := by rw [← hLp, List.length_map]
    have HUW : Hid (SU w n (.slice a css.length c) css (.slice am ms.length cm) ms W) := HU2.out.on h1
    have hLl : L.length ≤ 65536 := by omega
    rw [hLn]
    obtain ⟨av, kv, rfl⟩ : ∃ a c, v = .slice a L.length c := row_slice2 hac.om.row
    have HAc : Hid (Ac w2.heap.size (w3.heap.size + 3) W (.slice av L.length kv) L) := hac
    have HLP : Hid (L.map Prod.snd = modF n css) := hLp
    have HK0 : Hid (W.heap[D]? = some (.deferred (some []))) := hK
    have c0 := HUW.out.bx.c0
    have c1 := HUW.out.bx.c1
    have c4 := HAc.out.box.c
    have hDl : D < W.heap.size := (Array.getElem?_eq_some_iff.1 hK).1
    clear hK hS hLp hac hLn hml
    have HSat : Hid (Calls Tryd.prog 21 #[.agg #[.int .i64 n, .slice a css.length c], .slice am ms.length cm] W fun e w' => e = .returned (.bool (mdl n css ms && satT ms css)) ∧ Below W.heap.size W w') := cnfSatisfies_any n _ _ css ms W HUW.out.bx.rd HUW.out.m
    have HEnd : Hid (∀ X, Below W.heap.size W X → ∀ (K : World), K = X.setCell ⟨w.heap.size + 1, 0, none⟩ (.bool true) → K.heap[D]? = some (.deferred (some [])) ∧ (K.putObj D (.deferred none)).cell? ⟨w.heap.size + 1, 0, none⟩ = some (.bool true) ∧ Below w.heap.size w (K.putObj D (.deferred none))) := by
      rintro X hb K rfl
      have u := (HUW.out.on hb).out true
      have k0 : X.heap[D]? = some (.deferred (some [])) := (hb.block D hDl).trans HK0.out
      have k1 := (KeepsOthers.setCell X ⟨w.heap.size + 1, 0, none⟩ (.bool true)).same D _ k0 rfl
      exact ⟨k1, cell_kept u.1 (grownBy_putObj' _ D (.deferred none)) (fun r e => by cases e; exact ⟨_, k1, rfl⟩), u.2.trans (belowK_b (w := w) (Nat.le_refl _) _ D _ _ (by omega) k1 rfl rfl)⟩
    cases hq : mdl n css ms && satT ms css
    · rw [hq] at HSat
      go_wp2_with fail
      refine HSat.out.mono ?_
      rintro e X ⟨rfl, bel5⟩
      have f1 := (HUW.out.on bel5).r.f
      have g1 := (HUW.out.on bel5).r.c
      obtain ⟨q1, q2, q3⟩ := HEnd.out X bel5 _ rfl
      go_wp2
      refine ⟨by simp, .inl ⟨_, _, rfl, run_takeDeferred q1, ?_⟩⟩
      exact ⟨_, res_cell rfl rfl q2, rfl, q3⟩
    · rw [hq] at HSat
      have HIn : Hid (ms ∈ L.map Prod.snd) := by
        show _ ∈ _
        rw [HLP.out]
        exact in_modF HN16.out hq
      go_wp2_with fail
      refine HSat.out.mono ?_
      rintro e X ⟨rfl, bel5⟩
      have HX5 : Hid (Below W.heap.size W X) := bel5
      clear c0 c1 c4 bel5 HSat
      go_wp2
      go_loopg [10] L.length (fun g i wr => ∃ k : Nat, k + g = L.length ∧ i = .int .i64 k ∧ Hid (ms ∉ (L.take k).map Prod.snd) ∧ Hid (Below W.heap.size W wr))
      case atStart => exact ⟨0, by omega, rfl, (by show _ ∉ _; simp), HX5.out⟩
      case round =>
        obtain ⟨k, hk, rfl, HNo, HBr⟩ := hrel
        have HK : Hid (k + gk = L.length) := hk
        have HAr : Hid (Ac w2.heap.size (w3.heap.size + 3) wr (.slice av L.length kv) L) := HAc.out.below HBr.out
        have c4 := HAr.out.box.c
        by_cases hlt : k < L.length
        · obtain ⟨g, u, mu, hav, hcu, hou, hmu, htk⟩ := at_of HAr.out.om hlt
          subst hav
          have hmm : mu ∈ modF n css := by rw [← HLP.out]; exact hmu
          obtain ⟨⟨hun, hu16⟩, -⟩ := mem_modF hmm
          have hrdu : RdB wr u mu := OwnB.rd hou (by omega)
          obtain ⟨au, cu, rfl, -⟩ := hrdu.form
          have HSB : Hid (Calls Tryd.prog 12 #[.slice au mu.length cu, .slice am ms.length cm] wr fun e w' => e = .returned (.bool (mu == ms)) ∧ Below wr.heap.size wr w') := sameBools_any _ _ mu ms wr hrdu (HUW.out.on HBr.out).m
          have HTk : Hid ((L.take (k + 1)).map Prod.snd = (L.take k).map Prod.snd ++ [mu]) := htk
          clear hk hmm hun hu16 hrdu hou hmu htk
          cases hb : mu == ms
          · rw [hb] at HSB
            have HNe : Hid (mu ≠ ms) := by have := beq_eq_false_iff_ne.1 hb; exact this
            clear hb
            go_wp2_with fail
            refine HSB.out.mono ?_
            rintro e Y ⟨rfl, bel6⟩
            have HY : Hid (Below W.heap.size W Y) := HBr.out.trans (bel6.mono HBr.out.size)
            go_wp2
            go_roundg (gk - 1)
            case measure => have := HK.out; omega
            case rel => exact ⟨k + 1, by have := HK.out; omega, by go_num, (by show _ ∉ _; rw [HTk.out]; intro h; rcases List.mem_append.1 h with h | h; exact HNo.out h; exact HNe.out (List.mem_singleton.1 h).symm), HY.out⟩
          · rw [hb] at HSB
            clear hb
            go_wp2_with fail
            refine HSB.out.mono ?_
            rintro e Y ⟨rfl, bel6⟩
            have HY := HBr.out.trans (bel6.mono HBr.out.size)
            have f1 := (HUW.out.on HY).r.f
            have g1 := (HUW.out.on HY).r.c
            obtain ⟨q1, q2, q3⟩ := HEnd.out Y HY _ rfl
            go_wp2
            refine ⟨by simp, .inl ⟨_, _, rfl, run_takeDeferred q1, ?_⟩⟩
            exact ⟨_, res_cell rfl rfl q2, rfl, q3⟩
        · exfalso
          have e : k = L.length := by omega
          subst e
          have := HNo.out
          rw [List.take_length] at this
          exact this HIn.out
  case stop =>
    rintro D c pre W hD hSp h hK
    exact h.elim

theorem walk (n : Int) (s : Value) (css : List (List Int)) (vm : Value) (ms : List Bool) (w : World) (_ : (Lit.int .i64 n).wf = true) (hr : Rds w s css) (hm : RdB w vm ms) (ht : Tens w) :
    Calls Tryd.prog 8 #[.agg #[.int .i64 n, s], vm] w fun e w' => e = .returned (.bool true) ∧ Below w.heap.size w w' := main n s vm css ms w hr hm ht

end Go.Proofs.YtbphbnfnolgkfaaDoor.cnfSums
