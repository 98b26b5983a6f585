/-
  CnfModels, walked.
  KEEP: main walk mono rd rds on below len lt row bel own of set new trans refl out block size at from kept item next each form c0 c1 f0 f1 c f form max some none more map keep step after cell alloc same box
-/
import Derived.Test.YtfklgfdkpmfdnaaDoorCmP
import Derived.Sort.AtCallIn
import Derived.OwnWalkIn
import Derived.Sort.CutIn
import Derived.Deep.RegionHeld
set_option linter.unusedSimpArgs false
set_option linter.unusedVariables false
namespace Go.Proofs.YtfklgfdkpmfdnaaDoor.cnfModels
open Go Go.RowKit Go.Shelf

attribute [local go_sem] Oper.semAt_some
set_option maxRecDepth 20000 in
theorem fn_not_nil (gf : Nat) (lb : Array Value) (w : World) : (binOp BinOp.eql 29 (Value.func (Fn.func gf) #[] lb) Value.nilFunc).run Tryd.prog w = .ok (.bool false) w := by rfl
/-- what lies ahead of the copy -/
structure Fx (w : World) (n kk : Int) (s : Value) (css : List (List Int)) (Bw B : Nat) (av : Option Addr) (kv : Nat) (L : List Itb) (W : World) : Prop where
  bx : Bx w n s css W
  k1 : B1 W (w.heap.size + 1) (.int .i64 kk)
  r1 : B1 W (w.heap.size + 1 + 1) (.bool false)
  wb : B1 W Bw (.slice av L.length kv)
  om : OwnM B W (.slice av L.length kv) L
theorem Fx.on {w : World} {n kk : Int} {s : Value} {css : List (List Int)} {Bw B : Nat} {av : Option Addr} {kv : Nat} {L : List Itb} {W W' : World} (h : Fx w n kk s css Bw B av kv L W) (hb : Below W.heap.size W W') : Fx w n kk s css Bw B av kv L W' :=
  ⟨h.bx.on hb, h.k1.below hb, h.r1.below hb, h.wb.below hb, h.om.below hb⟩
theorem res_cell {fn : Func} {p : Tmp} {tmps : Array Value} {W : World} {D1 : Nat} {x : Value} (h : fn.results = #[.cell p 4]) (hp : tmps.getD p undef = .pointer (some ⟨D1, 0, none⟩)) (h1 : W.cell? ⟨D1, 0, none⟩ = some x) : (results fn tmps).run Tryd.prog W = .ok x W := by
  have hp' : tmps[p]?.getD undef = .pointer (some ⟨D1, 0, none⟩) := by simpa using hp
  simp only [results, h]
  simp [go_sem, hp', h1]
/-- the answer is laid, and both marks are there -/
structure Rt (w W : World) (D1 D2 : Nat) : Prop where
  bel : Below w.heap.size w W
  res : B1 W (w.heap.size + 1 + 1) (.bool true)
  m1 : W.heap[D1]? = some (.deferred (some []))
  m2 : W.heap[D2]? = some (.deferred (some []))
  ne : D1 ≠ D2
  l1 : w.heap.size ≤ D1
  l2 : w.heap.size ≤ D2
theorem Rt.fin {w W : World} {D1 D2 : Nat} (h : Rt w W D1 D2) : (W.putObj D2 (.deferred none)).heap[D1]? = some (.deferred (some [])) ∧ ((W.putObj D2 (.deferred none)).putObj D1 (.deferred none)).cell? ⟨w.heap.size + 1 + 1, 0, none⟩ = some (.bool true) ∧ Below w.heap.size w ((W.putObj D2 (.deferred none)).putObj D1 (.deferred none)) := by
  obtain ⟨t, hr⟩ := h.res
  have n1 : w.heap.size + 1 + 1 ≠ D1 := fun e => by rw [e, h.m1] at hr; cases hr
  have n2 : w.heap.size + 1 + 1 ≠ D2 := fun e => by rw [e, h.m2] at hr; cases hr
  have k1 := (World.putObj_heap_other (w := W) (o := .deferred none) h.ne).trans h.m1
  have k2 := (World.putObj_heap_other (w := W.putObj D2 (.deferred none)) (o := .deferred none) n1).trans ((World.putObj_heap_other (w := W) (o := .deferred none) n2).trans hr)
  refine ⟨k1, by simp only [World.cell?, k2]; rfl, (h.bel.trans (belowK_b (w := w) (Nat.le_refl _) _ D2 _ _ h.l2 h.m2 rfl rfl)).trans (belowK_b (w := w) (Nat.le_refl _) _ D1 _ _ h.l1 k1 rfl rfl)⟩
/-- between two rounds of the second range -/
structure Sd (w2 W : World) (n D : Nat) : Prop where
  sk : Sk w2 W n
  dm : W.heap[D]? = some (.deferred (some []))
theorem Sd.turn {w2 W W' : World} {n D : Nat} {row : Option Nat} (h : Sd w2 W n D) (hg : W.grownBy W' row) (hr : ∀ r, row = some r → w2.heap.size + 1 ≤ r ∧ D < r) : Sd w2 W' n D :=
  ⟨h.sk.turn hg (fun r e => (hr r e).1), (hg.block _ (Array.getElem?_eq_some_iff.1 h.dm).1 (fun e => by have := (hr _ e.symm).2; omega)).trans h.dm⟩
/-- the way out of it -/
structure Ro (w W : World) (D : Nat) : Prop where
  bel : Below w.heap.size w W
  res : B1 W (w.heap.size + 1 + 1) (.bool true)
  dm : W.heap[D]? = some (.deferred (some []))
theorem Ro.turn {w W W' : World} {D : Nat} {row : Option Nat} (h : Ro w W D) (hg : W.grownBy W' row) (hr : ∀ r, row = some r → w.heap.size + 1 + 1 < r ∧ D < r) : Ro w W' D :=
  ⟨h.bel.grown hg h.bel.size (fun r e => by have := (hr r e).1; omega), h.res.kept hg (fun e => by have := (hr _ e.symm).1; omega), (hg.block _ (Array.getElem?_eq_some_iff.1 h.dm).1 (fun e => by have := (hr _ e.symm).2; omega)).trans h.dm⟩
theorem row_slice2 {B K : Nat} {e : TypeId} {w : World} {x : Value} {xs : List Value} (h : w.ownsRow B e 1 x K xs) : ∃ a c, x = .slice a K c := by
  rcases h.2 with ⟨rfl, h0⟩ | ⟨g, cap, cur, rfl, _⟩
  · exact ⟨none, 0, by rw [h0]⟩
  · exact ⟨_, _, rfl⟩

set_option maxRecDepth 100000 in
set_option maxHeartbeats 3200000 in
theorem main (n : Int) (s : Value) (css : List (List Int)) (kk : Int) (w : World) (hr : Rds w s css) (ht : Tens w) :
    Calls Tryd.prog 3 #[.agg #[.int .i64 n, s], .int .i64 kk] w fun e w' => e = .returned (.bool true) ∧ Below w.heap.size w w' := by
  have HX0 : Hid (Bx w n s css (w.alloc (.cells #[.int .i64 n, s] 24))) := Bx.new hr _
  have HT : Hid (Tens w) := ht
  have H8 : Hid (∀ z ∈ css, z.length * 8 ≤ 140737488351232) := rds_each hr
  obtain ⟨a, c, rfl, hc, hmx, _⟩ := hr.form
  clear hr ht
  have HX : Hid (Bx w n (.slice a css.length c) css (((w.alloc (.cells #[.int .i64 n, .slice a css.length c] 24)).alloc (.cells #[.int .i64 kk] 3)).alloc (.cells #[.bool false] 4))) := (HX0.out.on (below_box _ _)).on (below_box _ _)
  have HK1 : Hid (B1 (((w.alloc (.cells #[.int .i64 n, .slice a css.length c] 24)).alloc (.cells #[.int .i64 kk] 3)).alloc (.cells #[.bool false] 4)) (w.heap.size + 1) (.int .i64 kk)) := by
    have e1 := (B1.new (w.alloc (.cells #[.int .i64 n, .slice a css.length c] 24)) 3 (.int .i64 kk)).below (below_box _ (.cells #[.bool false] 4))
    simp only [World.size_alloc] at e1
    exact e1
  have HR1 : Hid (B1 (((w.alloc (.cells #[.int .i64 n, .slice a css.length c] 24)).alloc (.cells #[.int .i64 kk] 3)).alloc (.cells #[.bool false] 4)) (w.heap.size + 1 + 1) (.bool false)) := by
    have e1 := B1.new ((w.alloc (.cells #[.int .i64 n, .slice a css.length c] 24)).alloc (.cells #[.int .i64 kk] 3)) 4 (.bool false)
    simp only [World.size_alloc] at e1
    exact e1
  clear HX0
  refine calls_marks 12 Tryd.func3 rfl ?_
  simp only [Tryd.ntmps3, List.size_toArray, List.length_cons, List.length_nil, Nat.reduceAdd, Nat.reduceSub, Array.replicate_succ, Array.replicate_zero, List.push_toArray, List.append_toArray, List.nil_append, List.cons_append]
  have c0 := HX.out.c0
  have c1 := HX.out.c1
  go_wp2_with fail
  generalize ((w.alloc (.cells #[.int .i64 n, .slice a css.length c] 24)).alloc (.cells #[.int .i64 kk] 3)).alloc (.cells #[.bool false] 4) = W0 at *
  refine (rModels_any n _ css _ HX.out.rd).mono ?_
  rintro e w1 ⟨u, L, rfl, om, hL, bel1⟩
  obtain ⟨av, kv, rfl⟩ : ∃ a c, u = .slice a L.length c := row_slice2 om.row
  have HL : Hid (L.map Prod.snd = modF n css) := hL
  have HF1 : Hid (Fx w n kk (.slice a css.length c) css w1.heap.size W0.heap.size av kv L (w1.alloc (.cells #[.slice av L.length kv] 25))) :=
    ⟨(HX.out.on bel1).on (below_box _ _), (HK1.out.below bel1).below (below_box _ _), (HR1.out.below bel1).below (below_box _ _), B1.new _ _ _, om.below (below_box _ _)⟩
  have hLl : L.length ≤ 65536 := by
    have h1 := modF_len n css
    have h2 := congrArg List.length hL
    rw [List.length_map] at h2
    omega
  clear HX HK1 HR1 c0 c1 om hL bel1
  have c0 := HF1.out.bx.c0
  have c1 := HF1.out.bx.c1
  go_wp2_with fail
  have hBw : w.heap.size + 1 + 1 < w1.heap.size + 1 := by have := HF1.out.r1.lt; simpa using this
  have hA : (w1.alloc (.cells #[.slice av L.length kv] 25)).heap.size = w1.heap.size + 1 := World.size_alloc _ _
  generalize w1.alloc (.cells #[.slice av L.length kv] 25) = wA at *
  refine (copyFormula_any n _ css wA HF1.out.bx.rd).mono ?_
  rintro e w2 ⟨s2, rfl, own2, bel2⟩
  obtain ⟨a2, c2, rfl⟩ := ownf_form own2
  have HO2 : Hid (OwnF wA.heap.size (w2.alloc (.cells #[.int .i64 n, .slice a2 css.length c2] 24)) (.slice a2 css.length c2) css) := own2.below (below_box _ _)
  have HB2 : Hid (Below wA.heap.size wA (w2.alloc (.cells #[.int .i64 n, .slice a2 css.length c2] 24))) := Below.step bel2 (below_box _ _)
  have HM2 : Hid ((w2.alloc (.cells #[.int .i64 n, .slice a2 css.length c2] 24)).heap[w2.heap.size]? = some (.cells #[.int .i64 n, .slice a2 css.length c2] 24 (0, 0))) := World.alloc_heap_new _ _
  have hsA : wA.heap.size ≤ w2.heap.size := bel2.size
  have hs2 : (w2.alloc (.cells #[.int .i64 n, .slice a2 css.length c2] 24)).heap.size = w2.heap.size + 1 := World.size_alloc _ _
  clear c0 c1 own2 bel2
  have d0 : (w2.alloc (.cells #[.int .i64 n, .slice a2 css.length c2] 24)).cell? ⟨w2.heap.size, 0, none⟩ = some (.int .i64 n) := by simp only [World.cell?, HM2.out]; rfl
  have d1 : (w2.alloc (.cells #[.int .i64 n, .slice a2 css.length c2] 24)).cell? ⟨w2.heap.size, 1, none⟩ = some (.slice a2 css.length c2) := by simp only [World.cell?, HM2.out]; rfl
  go_wp2_with fail
  generalize w2.alloc (.cells #[.int .i64 n, .slice a2 css.length c2] 24) = wB at *
  refine (models_any n _ css wB (HO2.out.rds (by have := HF1.out.bx.rd.len; omega) H8.out) (HT.out.below ((HF1.out.bx.bel).trans (HB2.out.mono HF1.out.bx.bel.size)))).mono ?_
  rintro e w3 ⟨f, rfl, hg, bel3⟩
  have HG : Hid (GivesB wB.heap.size (modF n css) f w3) := hg
  obtain ⟨gf, lb, rfl, -, -⟩ := hg
  have hnn := fn_not_nil gf lb
  clear d0 d1
  have q1 : (w3.alloc (.cells #[.func (.func gf) #[] lb] 29)).cell? ⟨w3.heap.size, 0, none⟩ = some (.func (.func gf) #[] lb) := box_new _ _ _
  have hsC : (w3.alloc (.cells #[.func (.func gf) #[] lb] 29)).heap.size = w3.heap.size + 1 := World.size_alloc _ _
  have HC : Hid (Below wB.heap.size wB (w3.alloc (.cells #[.func (.func gf) #[] lb] 29)) ∧ Mid wB.heap.size w3.heap.size w3 (w3.alloc (.cells #[.func (.func gf) #[] lb] 29))) := ⟨Below.step bel3 (below_box _ _), (Mid.refl _ _ _).alloc (Nat.le_refl _) _⟩
  have HW3 : Hid (wB.heap.size ≤ w3.heap.size) := bel3.size
  clear bel3
  go_wp2
  generalize w3.alloc (.cells #[.func (.func gf) #[] lb] 29) = wC at *
  have HMn : Hid (css.length = 0 ∨ ∃ gr arr, a2 = some ⟨gr, 0, none⟩ ∧ Mn wA.heap.size wB.heap.size css.length gr arr wC) := by
    rcases Mn.of HO2.out (Nat.le_refl _) H8.out with h | ⟨gr, arr, e, h⟩
    · exact .inl h
    · exact .inr ⟨gr, arr, e, h.later HC.out.1⟩
  have HMb : Hid (wC.heap[w2.heap.size]? = some (.cells #[.int .i64 n, .slice a2 css.length c2] 24 (0, 0))) := (HC.out.1.block _ (by omega)).trans HM2.out
  clear HM2
  have hcl : css.length ≤ 140737488351232 := by have := HF1.out.bx.rd.len; omega
  go_loopg [8] css.length (fun g i wr => ∃ k : Nat, k + g = css.length ∧ i = .int .i64 k ∧ Hid (Lp wA.heap.size wB.heap.size wC wr) ∧ Hid (wr.heap[w2.heap.size]? = some (.cells #[.int .i64 n, .slice a2 css.length c2] 24 (0, 0))) ∧ Hid (css.length = 0 ∨ ∃ gr arr, a2 = some ⟨gr, 0, none⟩ ∧ Mn wA.heap.size wB.heap.size css.length gr arr wr))
  case atStart => exact ⟨0, by omega, rfl, Lp.refl _ _ _, HMb.out, HMn.out⟩
  case round =>
    obtain ⟨k, hk, rfl, HLp, HMx, HMy⟩ := hrel
    have HK : Hid (k + gk = css.length) := hk
    have d1 : wr.cell? ⟨w2.heap.size, 1, none⟩ = some (.slice a2 css.length c2) := by simp only [World.cell?, HMx.out]; rfl
    clear hk HMb HMn
    by_cases hlt : k < css.length
    · obtain ⟨gr, arr, rfl, mn⟩ := HMy.out.resolve_left (by omega)
      obtain ⟨ka, km, kc, hka, hkm, hLb⟩ := mn.each k hlt
      have HMk : Hid (Mn wA.heap.size wB.heap.size css.length gr arr wr) := mn
      have HLb : Hid (Lb wA.heap.size wB.heap.size wr ka km) := hLb
      have HKa : Hid (arr[k]? = some (.slice ka km kc)) := hka
      have d2 : wr.cell? ⟨gr, k, none⟩ = some (.slice ka km kc) := by simp only [World.cell?, mn.row, hka]; rfl
      have hkm' : km ≤ 140737488351232 := by omega
      clear mn hka hkm hLb HMy
      go_wp2
      go_loopg [9] km (fun g i wq => ∃ j : Nat, j + g = km ∧ i = .int .i64 j ∧ Hid (Lp wA.heap.size wB.heap.size wC wq) ∧ Hid (wq.heap[w2.heap.size]? = some (.cells #[.int .i64 n, .slice (some ⟨gr, 0, none⟩) css.length c2] 24 (0, 0))) ∧ Hid (Mn wA.heap.size wB.heap.size css.length gr arr wq) ∧ Hid (Lb wA.heap.size wB.heap.size wq ka km))
      case atStart => exact ⟨0, by omega, rfl, HLp, HMx, HMk, HLb⟩
      case round =>
        clear d1 d2 HLp HMx HMk HLb
        obtain ⟨j, hj, rfl, HLp, HMx, HMk, HLb⟩ := hrel
        have HJ : Hid (j + gk = km) := hj
        have d1 : wr.cell? ⟨w2.heap.size, 1, none⟩ = some (.slice (some ⟨gr, 0, none⟩) css.length c2) := by simp only [World.cell?, HMx.out]; rfl
        have d2 : wr.cell? ⟨gr, k, none⟩ = some (.slice ka km kc) := by simp only [World.cell?, HMk.out.row, HKa.out]; rfl
        clear hj
        by_cases hjm : j < km
        · obtain ⟨g, cs, rfl, l1, l2, l3, l4, l5⟩ := HLb.out.resolve_left (by omega)
          obtain ⟨z, hz⟩ := l5 j hjm
          have d3 : wr.cell? ⟨g, j, none⟩ = some (.int .i64 z) := by simp only [World.cell?, l3, hz]; rfl
          have d4 : wr.frozen? ⟨g, j, none⟩ = false := by simp [World.frozen?, l3]
          have HN : Hid (∀ y : Int, Lp wA.heap.size wB.heap.size wC (wr.setCell ⟨g, j, none⟩ (.int .i64 y)) ∧ (wr.setCell ⟨g, j, none⟩ (.int .i64 y)).heap[w2.heap.size]? = some (.cells #[.int .i64 n, .slice (some ⟨gr, 0, none⟩) css.length c2] 24 (0, 0)) ∧ Mn wA.heap.size wB.heap.size css.length gr arr (wr.setCell ⟨g, j, none⟩ (.int .i64 y)) ∧ Lb wA.heap.size wB.heap.size (wr.setCell ⟨g, j, none⟩ (.int .i64 y)) (some ⟨g, 0, none⟩) km) := fun y =>
            ⟨HLp.out.set l1 l2 j _, (heap_set_other _ j _ (fun e => by have h5 := HMx.out; rw [e, l3] at h5; simp at h5)).trans HMx.out, HMk.out.set l3 j y, HLb.out.set j y⟩
          clear l3 l4 l5 hz
          go_wp2
          go_region_with (fail)
          all_goals
            go_wp2
            go_roundg (gk - 1)
            case measure => have := HJ.out; omega
            case rel => exact ⟨j + 1, by have := HJ.out; omega, by go_num, (HN.out _).1.drew, (HN.out _).2.1, (HN.out _).2.2.1.drew, (HN.out _).2.2.2.drew⟩
        · obtain rfl : j = km := by have := HJ.out; omega
          have d5 : wr.frozen? ⟨gr, k, none⟩ = false := by simp [World.frozen?, HMk.out.row]
          have HN : Hid (Lp wA.heap.size wB.heap.size wC (wr.setCell ⟨gr, k, none⟩ (.slice none 0 0)) ∧ (wr.setCell ⟨gr, k, none⟩ (.slice none 0 0)).heap[w2.heap.size]? = some (.cells #[.int .i64 n, .slice (some ⟨gr, 0, none⟩) css.length c2] 24 (0, 0)) ∧ Mn wA.heap.size wB.heap.size css.length gr (arr.setIfInBounds k (.slice none 0 0)) (wr.setCell ⟨gr, k, none⟩ (.slice none 0 0))) :=
            ⟨HLp.out.set HMk.out.rb.1 HMk.out.rb.2 k _, (heap_set_other _ k _ (fun e => by have h5 := HMx.out; rw [e, HMk.out.row] at h5; simp at h5)).trans HMx.out, HMk.out.nil k⟩
          go_wp2
          go_roundg (css.length - k - 1)
          case measure => have := HK.out; omega
          case rel => exact ⟨k + 1, by have := HK.out; omega, by go_num, HN.out.1, HN.out.2.1, .inr ⟨gr, _, rfl, HN.out.2.2⟩⟩
    · obtain rfl : k = css.length := by have := HK.out; omega
      have hsr : wr.heap.size = wC.heap.size := HLp.out.size
      have HS0 : Hid (Sk wr (wr.alloc (.cells #[.int .i64 0] 3)) 0) := Sk.new wr
      have HA : Hid (∀ W, Below wr.heap.size wr W → Fx w n kk (.slice a css.length c) css w1.heap.size W0.heap.size av kv L W ∧ W.cell? ⟨w3.heap.size, 0, none⟩ = some (.func (.func gf) #[] lb) ∧ Mid wB.heap.size w3.heap.size w3 W) := fun W hW => by
        have h1 : wA.heap.size ≤ wB.heap.size := HB2.out.size
        have h2 : wB.heap.size ≤ wC.heap.size := HC.out.1.size
        have h3 : Below wA.heap.size wA W := ((HB2.out.trans (HC.out.1.mono h1)).trans HLp.out.below).trans (hW.mono (by omega))
        have hl : w3.heap.size < wC.heap.size := by omega
        have h4 : W.cell? ⟨w3.heap.size, 0, none⟩ = wC.cell? ⟨w3.heap.size, 0, none⟩ := World.cell?_of_block ((hW.block w3.heap.size (by omega)).trans (HLp.out.block w3.heap.size (.inr HW3.out)))
        exact ⟨HF1.out.on h3, h4.trans q1, (HC.out.2.trans HLp.out.mid).trans (Mid.of_below hW (by omega))⟩
      have q0 := (HA.out _ HS0.out.bel).2.1
      have hwr : w3.heap.size < wr.heap.size := by omega
      clear hsr HLp HMx HMy HK hlt q1 hsC HC HO2 HB2 HF1
      go_wp2
      clear d1
      obtain ⟨gf', lb', e', heg, hseq⟩ := HG.out
      cases e'
      have HEg : Hid (∀ args w, (callFunc gf args).run Tryd.prog w = .ok (.enter gf args) w) := heg
      have HSq : Hid (∀ k, 1 ≤ k → ∀ N, SeqN Fence.wide k Tryd.prog gf lb (fun x : Itb => #[x.1]) (VB (modF n css)) (Mid wB.heap.size w3.heap.size) (fun xs => xs.map Prod.snd = modF n css) (fun pre => pre.map Prod.snd <+: modF n css) N w3) := hseq
      clear HG heg hseq
      refine (wpIn_wide (n := 12)).1 ?_
      refine' wpIn_rangeNl rfl (by omega) (gf := gf) (lb := lb) rfl trivial HEg.out (HSq.out (12 - 1) (by omega) _) Mid.trans (midK_b (by simp; omega)) (fun W o h => h.alloc (Nat.le_refl _) o) (HA.out _ HS0.out.bel).2.2 (fun _ => rfl)
        (fun pre W => Sk wr W pre.length)
        (fun c pre W => False)
        (fun s X Y row h hg hr => h.turn hg (fun r e => by have := (hr r e).1; simp at this; omega))
        (fun s X Y h hg => h.turn hg (fun r e => by cases e; simp))
        (fun c s A B row hs hg hr => hs)
        (fun m pre => VB.own _ _ _ pre)
        HS0.out
        _ ?assign1 ?body1 ?done1 ?stop1
      case assign1 =>
        intro l x W K hK
        gi_wp2
        exact hK
      case stop1 =>
        rintro D2 c pre W hD hSp h hK
        exact h.elim
      case body1 =>
        rintro l pre ⟨xv, xm⟩ S0 W hle ⟨r, hlr⟩ sk hsz hS0 hV
        have hrdb : RdB W xv xm := hV.rd
        have hpx := hV.1
        have hx16 : xm.length ≤ 16 := hV.2.1
        obtain ⟨ax, cx, hxv, -⟩ := hrdb.form
        subst hxv
        obtain ⟨fx, -, -⟩ := HA.out W sk.bel
        obtain ⟨hkL, gw, uw, hav, cu, ow⟩ := want_item fx.om HL.out hpx
        subst hav
        have hrdu : RdB W uw xm := OwnB.rd ow (by omega)
        obtain ⟨au, ku, huw, -⟩ := hrdu.form
        subst huw
        have HE : Hid (Calls Tryd.prog 8 #[.slice ax xm.length cx, .slice au xm.length ku] W fun e w' => e = .returned (.bool true) ∧ Below W.heap.size W w') := by
          have h5 := sameBools_any _ _ xm xm W hrdb hrdu
          rw [show (xm == xm) = true from beq_self_eq_true xm] at h5
          exact h5
        have cn := sk.cell.1
        have cw := fx.wb.c
        have HLen : Hid ((pre ++ [((.slice ax xm.length cx, xm) : Itb)]).length = pre.length + 1) := by show _ = _; simp
        have HSk : Hid (Sk wr W pre.length) := sk
        have HkL : Hid (pre.length < L.length) := hkL
        have hki : (pre.length : Int) < (L.length : Int) := by omega
        have hkb : pre.length ≤ 65536 := by omega
        have HLr : Hid (W.heap[l]? = some (.loop r)) := hlr
        have HSz : Hid (wr.heap.size + 1 + 2 < W.heap.size) := by have := hsz; simp at this; exact this
        clear hV hrdb hpx hrdu ow fx sk hkL hlr hsz hS0
        generalize pre.length = kp at *
        gi_wp2_with fail
        refine ⟨trivial, ?_⟩
        refine ((callsIn_wide.2 HE.out).inRound l).mono ?_
        rintro e w4 ⟨rfl, b4⟩
        have HB4 : Hid (Below W.heap.size W w4) := b4
        have HS4 : Hid (Sk wr w4 kp) := HSk.out.below b4
        have c4 := HS4.out.cell.1
        have k4 := (HA.out w4 HS4.out.bel).1.k1.c
        clear cn cw cu b4 HE
        have HEnd : Hid (∀ w5, Below W.heap.size W w5 → KeepsOthers W (w5.setCell ⟨wr.heap.size, 0, none⟩ (.int .i64 ((kp : Int) + 1))) ∧ (Mid wB.heap.size w3.heap.size W (w5.setCell ⟨wr.heap.size, 0, none⟩ (.int .i64 ((kp : Int) + 1))) ∧ (w5.setCell ⟨wr.heap.size, 0, none⟩ (.int .i64 ((kp : Int) + 1))).heap[(wr.alloc (.cells #[.int .i64 0] 3)).heap.size + 2]? = W.heap[(wr.alloc (.cells #[.int .i64 0] 3)).heap.size + 2]?) ∧ Sk wr (w5.setCell ⟨wr.heap.size, 0, none⟩ (.int .i64 ((kp : Int) + 1))) (pre ++ [((.slice ax xm.length cx, xm) : Itb)]).length) := by
          intro w5 h5
          have hz := HSz.out
          have hsw : wr.heap.size ≤ W.heap.size := HSk.out.bel.size
          refine ⟨(keeps_below h5).trans (KeepsOthers.setCell _ _ _), ⟨⟨?_, fun k h1 h2 => ?_⟩, ?_⟩, by rw [HLen.out]; exact (HSk.out.below h5).put (kp + 1)⟩
          · rw [World.size_setCell]; exact h5.size
          · exact (heap_set_other _ 0 _ (by omega)).trans (h5.block k (by omega))
          · rw [World.size_alloc]
            exact (heap_set_other _ 0 _ (by omega)).trans (h5.block _ (by omega))
        by_cases hkk : (kp : Int) = kk
        · have hke : ((kp : Int) == kk) = true := by rw [hkk]; exact beq_self_eq_true _
          clear hkk
          have HSi : Hid (Sk w4 (w4.alloc (.cells #[.int .i64 0] 3)) 0) := Sk.new w4
          have qi := (HA.out _ (Below.step HS4.out.bel HSi.out.bel)).2.1
          have HLi : Hid ((w4.alloc (.cells #[.int .i64 0] 3)).heap[l]? = some (.loop r)) := ((below_box _ _).block _ (Nat.lt_of_lt_of_le (Array.getElem?_eq_some_iff.1 HLr.out).1 HB4.out.size)).trans ((HB4.out.block _ (Array.getElem?_eq_some_iff.1 HLr.out).1).trans HLr.out)
          have hw4 : wr.heap.size < w4.heap.size := (Array.getElem?_eq_some_iff.1 HS4.out.nb).1
          have HWs : Hid (wr.heap.size ≤ w4.heap.size) := Nat.le_of_lt hw4
          gi_wp2
          refine' wpIn_rangeNx_brk HLi.out (by omega) (gf := gf) (lb := lb) rfl HEg.out (HSq.out _ (by omega) _) Mid.trans (midK_b (by simp; omega)) (fun W o h => h.alloc (Nat.le_refl _) o) (HA.out _ (Below.step HS4.out.bel HSi.out.bel)).2.2 (fun _ => rfl)
            (fun pre' Wi => Sk w4 Wi pre'.length)
            (fun Wi => Below w4.heap.size w4 Wi)
            6
            (fun s X Y row h hg hr => h.turn hg (fun r e => by have := (hr r e).1; simp at this; omega))
            (fun s X Y h hg => h.turn hg (fun r e => by cases e; simp))
            (own_below (by simp) (Nat.le_refl _))
            (fun m pre => VB.own _ _ _ pre)
            HSi.out
            _ ?assign3 ?body3 (fun xs W hS sk => sk.bel) (fun a w h => h) ?tail3
          case assign3 =>
            intro l x W K hK
            gi_wp2
            exact hK
          case tail3 =>
            intro W5 b5
            have HB5 : Hid (Below W.heap.size W W5) := Below.step HB4.out b5
            have c5 := (HSk.out.below HB5.out).cell.1
            have f5 := (HSk.out.below HB5.out).cell.2
            clear b5
            gi_wp2
            exact HEnd.out _ HB5.out
          case body3 =>
            rintro l'' pre' ⟨yv, ym⟩ S1 Y sk hsz hS0 hV
            have hrdb : RdB Y yv ym := hV.rd
            have hpx := hV.1
            have hx16 : ym.length ≤ 16 := hV.2.1
            obtain ⟨ay, cy, hxv, -⟩ := hrdb.form
            subst hxv
            have hbY : Below wr.heap.size wr Y := Below.step HS4.out.bel sk.bel
            obtain ⟨fx, -, -⟩ := HA.out Y hbY
            obtain ⟨hkL, gw', uw, hav, cu, ow⟩ := want_item fx.om HL.out hpx
            obtain rfl : gw' = gw := by injection hav with e1; injection e1 with e1; exact e1.symm
            have hrdu : RdB Y uw ym := OwnB.rd ow (by omega)
            obtain ⟨au', ku', huw, -⟩ := hrdu.form
            subst huw
            have HE : Hid (Calls Tryd.prog 8 #[.slice ay ym.length cy, .slice au' ym.length ku'] Y fun e w' => e = .returned (.bool true) ∧ Below Y.heap.size Y w') := by
              have h5 := sameBools_any _ _ ym ym Y hrdb hrdu
              rw [show (ym == ym) = true from beq_self_eq_true ym] at h5
              exact h5
            have cn := sk.cell.1
            have cw := fx.wb.c
            have HLen' : Hid ((pre' ++ [((.slice ay ym.length cy, ym) : Itb)]).length = pre'.length + 1) := by show _ = _; simp
            have HSy : Hid (Sk w4 Y pre'.length) := sk
            have hki' : (pre'.length : Int) < (L.length : Int) := by omega
            have hkb' : pre'.length ≤ 65536 := by omega
            have HSz' : Hid (w4.heap.size + 1 + 1 < Y.heap.size) := by have := hsz; simp at this; exact this
            clear hV hrdb hpx hrdu ow fx sk hkL hsz hS0 hbY
            generalize pre'.length = kq at *
            gi_wp2_with fail
            refine ⟨trivial, ?_⟩
            refine (((callsIn_wide.2 HE.out).inRound l).inRound l'').mono ?_
            rintro e w6 ⟨rfl, b6⟩
            have HB6 : Hid (Below Y.heap.size Y w6) := b6
            have HS6 : Hid (Sk w4 w6 kq) := HSy.out.below b6
            have c6 := HS6.out.cell.1
            have f6 := HS6.out.cell.2
            have HEnd' : Hid (KeepsOthers Y (w6.setCell ⟨w4.heap.size, 0, none⟩ (.int .i64 ((kq : Int) + 1))) ∧ (Mid wB.heap.size w3.heap.size Y (w6.setCell ⟨w4.heap.size, 0, none⟩ (.int .i64 ((kq : Int) + 1))) ∧ (w6.setCell ⟨w4.heap.size, 0, none⟩ (.int .i64 ((kq : Int) + 1))).heap[(w4.alloc (.cells #[.int .i64 0] 3)).heap.size + 1]? = Y.heap[(w4.alloc (.cells #[.int .i64 0] 3)).heap.size + 1]?) ∧ Sk w4 (w6.setCell ⟨w4.heap.size, 0, none⟩ (.int .i64 ((kq : Int) + 1))) (pre' ++ [((.slice ay ym.length cy, ym) : Itb)]).length) := by
              have hz := HSz'.out
              have hsw := HWs.out
              refine ⟨(keeps_below HB6.out).trans (KeepsOthers.setCell _ _ _), ⟨⟨?_, fun k h1 h2 => ?_⟩, ?_⟩, by rw [HLen'.out]; exact HS6.out.put (kq + 1)⟩
              · rw [World.size_setCell]; exact HB6.out.size
              · exact (heap_set_other _ 0 _ (by omega)).trans (HB6.out.block k (by omega))
              · rw [World.size_alloc]
                exact (heap_set_other _ 0 _ (by omega)).trans (HB6.out.block _ (by omega))
            clear cn cw cu b6 HE
            by_cases h3 : 3 < kq + 1
            · have h3' : decide ((3 : Int) < (kq : Int) + 1) = true := decide_eq_true (by omega)
              gi_wp2
              exact ⟨HEnd'.out.1, rfl, HEnd'.out.2.2.bel⟩
            · have h3' : decide ((3 : Int) < (kq : Int) + 1) = false := decide_eq_false (by omega)
              gi_wp2
              exact HEnd'.out
        · have hke : ((kp : Int) == kk) = false := beq_eq_false_iff_ne.2 hkk
          have f4 := HS4.out.cell.2
          gi_wp2
          exact HEnd.out _ HB4.out
      case done1 =>
        rintro D1 ys W5 hD1 hS sk5 hK5
        have hyl : ys.length = L.length := by
          have h5 := congrArg List.length hS
          have h6 := congrArg List.length HL.out
          simp only [List.length_map] at h5 h6
          omega
        rw [hyl] at sk5
        have hD9 : wr.heap.size + 1 ≤ D1 := by simpa using hD1
        have hDl : D1 < W5.heap.size := (Array.getElem?_eq_some_iff.1 hK5).1
        have c5 := sk5.cell.1
        have f5 := sk5.cell.2
        have w5 := (HA.out W5 sk5.bel).1.wb.c
        have HS6 : Hid (Sd wr (W5.setCell ⟨wr.heap.size, 0, none⟩ (.int .i64 0)) 0 D1) := ⟨sk5.put 0, (KeepsOthers.setCell W5 ⟨wr.heap.size, 0, none⟩ (.int .i64 0)).same D1 _ hK5 rfl⟩
        have hz6 : (W5.setCell ⟨wr.heap.size, 0, none⟩ (.int .i64 0)).heap.size = W5.heap.size := World.size_setCell _ _ _
        have q6 := (HA.out _ HS6.out.sk.bel).2.1
        have hbm : ((L.length : Int) != (L.length : Int)) = false := by simp
        clear sk5 hK5 hS hyl q0
        go_upto_region 31 with fail
        clear c5 f5 w5
        generalize W5.setCell ⟨wr.heap.size, 0, none⟩ (.int .i64 0) = W6 at *
        rw [← hz6] at hDl
        clear hz6
        have hs6 : wr.heap.size + 1 ≤ W6.heap.size := by omega
        have hw2 : w.heap.size + 1 + 1 < wr.heap.size := (HA.out wr (Below.refl _ _)).1.r1.lt
        go_wp2
        refine (wpIn_wide (n := 12)).1 ?_
        refine' wpIn_rangeNl rfl (by omega) (gf := gf) (lb := lb) rfl trivial HEg.out (HSq.out (12 - 1) (by omega) _) Mid.trans (midK_b (by omega)) (fun W o h => h.alloc (Nat.le_refl _) o) (HA.out _ HS6.out.sk.bel).2.2 (fun _ => rfl)
          (fun pre W => Sd wr W pre.length D1)
          (fun c pre W => c = .ret ∧ Ro w W D1)
          (fun s X Y row h hg hr => h.turn hg (fun r e => by have := (hr r e).1; omega))
          (fun s X Y h hg => h.turn hg (fun r e => by cases e; omega))
          (fun c s A B row hs hg hr => ⟨hs.1, hs.2.turn hg (fun r e => by have := (hr r e).1; omega)⟩)
          (fun m pre => VB.own _ _ _ pre)
          HS6.out
          _ ?assign2 ?body2 ?done2 ?stop2
        case assign2 =>
          intro l x W K hK
          gi_wp2
          exact hK
        case stop2 =>
          rintro D2 c pre W hD hSp ⟨rfl, ro⟩ hK
          have rt : Rt w W D1 D2 := ⟨ro.bel, ro.res, ro.dm, hK, by omega, by omega, by omega⟩
          gi_wp2
          refine ⟨by simp, .inl ⟨_, _, rfl, run_takeDeferred hK, ?_⟩⟩
          refine ⟨by simp, .inl ⟨_, _, rfl, run_takeDeferred rt.fin.1, ?_⟩⟩
          exact ⟨_, res_cell rfl rfl rt.fin.2.1, rfl, rt.fin.2.2⟩
        case done2 =>
          rintro D2 ys W7 hD2 hS sd7 hK7
          have hyl : ys.length = L.length := by
            have h5 := congrArg List.length hS
            have h6 := congrArg List.length HL.out
            simp only [List.length_map] at h5 h6
            omega
          rw [hyl] at sd7
          have c7 := sd7.sk.cell.1
          have w7 := (HA.out W7 sd7.sk.bel).1.wb.c
          have r7 := (HA.out W7 sd7.sk.bel).1.r1
          have r7c := r7.c
          have r7f := r7.f
          have hbe : ((L.length : Int) == (L.length : Int)) = true := beq_self_eq_true _
          have HRt : Hid (Rt w (W7.setCell ⟨w.heap.size + 1 + 1, 0, none⟩ (.bool true)) D1 D2) :=
            ⟨(HA.out W7 sd7.sk.bel).1.bx.bel.setCell (p := ⟨w.heap.size + 1 + 1, 0, none⟩) (by show w.heap.size ≤ w.heap.size + 1 + 1; omega) _, r7.set _, (KeepsOthers.setCell W7 ⟨w.heap.size + 1 + 1, 0, none⟩ (.bool true)).same D1 _ sd7.dm rfl, (KeepsOthers.setCell W7 ⟨w.heap.size + 1 + 1, 0, none⟩ (.bool true)).same D2 _ hK7 rfl, by omega, by omega, by omega⟩
          clear sd7 hK7 hS hyl r7
          go_wp2
          refine ⟨by simp, .inl ⟨_, _, rfl, run_takeDeferred HRt.out.m2, ?_⟩⟩
          refine ⟨by simp, .inl ⟨_, _, rfl, run_takeDeferred HRt.out.fin.1, ?_⟩⟩
          exact ⟨_, res_cell rfl rfl HRt.out.fin.2.1, rfl, HRt.out.fin.2.2⟩
        case body2 =>
          rintro l pre ⟨xv, xm⟩ S0 W hle - sd hsz hS0 hV
          have hrdb : RdB W xv xm := hV.rd
          have hpx := hV.1
          have hx16 : xm.length ≤ 16 := hV.2.1
          obtain ⟨ax, cx, hxv, -⟩ := hrdb.form
          subst hxv
          obtain ⟨fx, -, -⟩ := HA.out W sd.sk.bel
          obtain ⟨hkL, gw, uw, hav, cu, ow⟩ := want_item fx.om HL.out hpx
          subst hav
          have hrdu : RdB W uw xm := OwnB.rd ow (by omega)
          obtain ⟨au, ku, huw, -⟩ := hrdu.form
          subst huw
          have HE : Hid (Calls Tryd.prog 8 #[.slice ax xm.length cx, .slice au xm.length ku] W fun e w' => e = .returned (.bool true) ∧ Below W.heap.size W w') := by
            have h5 := sameBools_any _ _ xm xm W hrdb hrdu
            rw [show (xm == xm) = true from beq_self_eq_true xm] at h5
            exact h5
          have cn := sd.sk.cell.1
          have cw := fx.wb.c
          have ck := fx.k1.c
          have HLen : Hid ((pre ++ [((.slice ax xm.length cx, xm) : Itb)]).length = pre.length + 1) := by show _ = _; simp
          have HSd : Hid (Sd wr W pre.length D1) := sd
          have hki : (pre.length : Int) < (L.length : Int) := by omega
          have hkb : pre.length ≤ 65536 := by omega
          have HSz : Hid (W6.heap.size + 2 < W.heap.size) := hsz
          have HFx : Hid (Fx w n kk (.slice a css.length c) css w1.heap.size W0.heap.size (some ⟨gw, 0, none⟩) kv L W) := fx
          clear hV hrdb hpx hrdu ow fx sd hkL hsz hS0
          generalize pre.length = kp at *
          by_cases hkk : (kp : Int) = kk
          · have hke : ((kp : Int) == kk) = true := by rw [hkk]; exact beq_self_eq_true _
            clear hkk
            have r4c := HFx.out.r1.c
            have r4f := HFx.out.r1.f
            have HRo : Hid (Ro w (W.setCell ⟨w.heap.size + 1 + 1, 0, none⟩ (.bool true)) D1) := ⟨HFx.out.bx.bel.setCell (p := ⟨w.heap.size + 1 + 1, 0, none⟩) (by show w.heap.size ≤ w.heap.size + 1 + 1; omega) _, HFx.out.r1.set _, (KeepsOthers.setCell W ⟨w.heap.size + 1 + 1, 0, none⟩ (.bool true)).same D1 _ HSd.out.dm rfl⟩
            gi_wp2
            exact ⟨KeepsOthers.setCell _ _ _, rfl, HRo.out⟩
          · have hke : ((kp : Int) == kk) = false := beq_eq_false_iff_ne.2 hkk
            gi_wp2_with fail
            refine ⟨trivial, ?_⟩
            refine ((callsIn_wide.2 HE.out).inRound l).mono ?_
            rintro e w4 ⟨rfl, b4⟩
            have HB4 : Hid (Below W.heap.size W w4) := b4
            have c4 := (HSd.out.sk.below b4).cell.1
            have f4 := (HSd.out.sk.below b4).cell.2
            have HEnd : Hid (KeepsOthers W (w4.setCell ⟨wr.heap.size, 0, none⟩ (.int .i64 ((kp : Int) + 1))) ∧ (Mid wB.heap.size w3.heap.size W (w4.setCell ⟨wr.heap.size, 0, none⟩ (.int .i64 ((kp : Int) + 1))) ∧ (w4.setCell ⟨wr.heap.size, 0, none⟩ (.int .i64 ((kp : Int) + 1))).heap[W6.heap.size + 2]? = W.heap[W6.heap.size + 2]?) ∧ Sd wr (w4.setCell ⟨wr.heap.size, 0, none⟩ (.int .i64 ((kp : Int) + 1))) (pre ++ [((.slice ax xm.length cx, xm) : Itb)]).length D1) := by
              have hz := HSz.out
              refine ⟨(keeps_below HB4.out).trans (KeepsOthers.setCell _ _ _), ⟨⟨?_, fun k h1 h2 => ?_⟩, ?_⟩, by rw [HLen.out]; exact (HSd.out.sk.below HB4.out).put (kp + 1), ?_⟩
              · rw [World.size_setCell]; exact HB4.out.size
              · exact (heap_set_other _ 0 _ (by omega)).trans (HB4.out.block k (by omega))
              · exact (heap_set_other _ 0 _ (by omega)).trans (HB4.out.block _ (by omega))
              · exact (heap_set_other _ 0 _ (by omega)).trans ((HB4.out.block _ (by omega)).trans HSd.out.dm)
            clear cn cw cu b4 HE
            gi_wp2
            exact HEnd.out

theorem walk (n : Int) (s : Value) (css : List (List Int)) (kk : Int) (w : World) (_ : (Lit.int .i64 n).wf = true) (hr : Rds w s css) (_ : (Lit.int .i64 kk).wf = true) (ht : Tens w) :
    Calls Tryd.prog 3 #[.agg #[.int .i64 n, s], .int .i64 kk] w fun e w' => e = .returned (.bool true) ∧ Below w.heap.size w w' := main n s css kk w hr ht

end Go.Proofs.YtfklgfdkpmfdnaaDoor.cnfModels
