/-
  drat's reader.end, walked.
  KEEP: box own below mono lt set kept new trans refl app on grown cell out block size os tape output c f c0 c1 row_apart
-/
import Derived.Test.YtaipajalkendaaaDoorDrR
import Derived.Laws.ResultCell
set_option linter.unusedSimpArgs false
set_option linter.unusedVariables false
namespace Go.Proofs.YtaipajalkendaaaDoor
open Go Go.RowKit Go.Lib Go.Sort

theorem mq_box {W W' : World} {D : Nat} (h : Below W.heap.size W W') : Mq W (fun k => k = D) W' (fun k => k = D) := Mq.below h _
theorem mq_set {W W' : World} {D : Nat} (h : Mq W (fun k => k = D) W' (fun k => k = D)) (hD : D < W.heap.size) (o : Nat) (v : Value) : Mq W (fun k => k = D) (W'.setCell ⟨D, o, none⟩ v) (fun k => k = D) :=
  h.trans ⟨rfl, rfl, rfl, by rw [World.size_setCell]; exact Nat.le_refl _, fun k _ hk => Below.heap_setCell _ _ _ k hk, fun _ h => .inl h⟩

theorem own_form9 {B : Nat} {w : World} {v : Value} {n : Nat} {xs : List Value} (h : w.ownsRow B 3 1 v n xs) : ∃ a c, v = .slice a n c := by
  rcases h.2 with ⟨rfl, hn⟩ | ⟨g, cap, cur, rfl, _⟩
  · exact ⟨none, 0, by rw [hn]⟩
  · exact ⟨_, cap, rfl⟩
/-- append onto a row of the call's own, as one step of a region that draws -/
theorem step_append_own9 {P : Program} {ops : Array Oper} {o : Oper} {a : Act} {w : World} {K : Act → World → Prop} {Q : Exit → Act → World → Prop} {E : Prop}
    (hg : o.guard = none) (s x : Operand) (t : TypeId) (hop : o.op = Op.call { callee := Callee.builtin Builtin.append, args := #[s, x], argTypes := #[t, t] })
    (base : Nat) (e : TypeId) (i : TypeInfo) (z : Value) (size bytes : Nat) (h1 : P.underlying t = some (.slice e)) (h2 : P.info? e = some i) (h3 : i.zero = some z) (h4 : i.size = size) (h5 : i.bytes = bytes) (h6 : z.cells.size = size) (h7 : 0 < size)
    (v : Value) (n : Nat) (xs : List Value) (hs : a.eval s = v) (hown : w.ownsRow base e size v n xs)
    (ad : Addr) (m c : Nat) (news : List Value) (hx : a.eval x = .slice (some ad) m c) (hn : news.length = m * size) (hc : ∀ j u, news[j]? = some u → w.cell? (ad.add j) = some u) (h1c : ∀ u ∈ news, u.oneCell' = true)
    (b1 : n + m ≤ maxLen) (b2 : (n + m) * bytes ≤ 140737488355328) (hbase : base ≤ w.heap.size)
    (hK : ∀ v' w', w'.ownsRow base e size v' (n + m) (xs ++ news) → w.grownBy w' v.ownBlock → K (a.put o.dst v') w') :
    if Region.wanted o (yielded ops a.tmps) = true then Oper.wp P o a w K Q else E := by
  have hw : Region.wanted o (yielded ops a.tmps) = true := by simp [Region.wanted, hg]
  rw [if_pos hw]
  obtain ⟨v', w', hrun, r1, r2, _⟩ := run_append_own (P := P) w base t o.type e i z size bytes h1 h2 h3 h4 h5 h6 h7 v n xs hown ad m c news hn hc h1c b1 b2 hbase
  unfold Oper.wp
  simp [execOp, hop, resolve, invoke, builtin, hs, hx, hrun, Result.andThen]
  exact hK v' w' r1 r2

theorem ret_stp {fn : Func} {p : Tmp} {tmps : Array Value} {W : World} {D : Nat} {x y : Value} (h : fn.results = #[.cell p 41]) (hp : tmps.getD p undef = .pointer (some ⟨D, 0, none⟩)) (hb : Bx2 W D 41 x y) :
    (results fn tmps).run Tryd.prog W = .ok (.agg #[x, y]) W := by
  have c0 := hb.c0
  have c1 := hb.c1
  have hp' : tmps[p]?.getD undef = .pointer (some ⟨D, 0, none⟩) := by rw [← hp]; simp
  unfold results
  rw [h]
  simp [go_sem, hp', c0, c1]
theorem own_keep9 {B : Nat} {W W' : World} {v : Value} {zs : List Int} (h : Own B W v zs) (hk : ∀ k, some k = v.ownBlock → W'.heap[k]? = W.heap[k]?) : Own B W' v zs := by
  refine ⟨h.1, ?_⟩
  rcases h.2 with hn | ⟨g, cap, cur, hv, hg, hh, r⟩
  · exact .inl hn
  · exact .inr ⟨g, cap, cur, hv, hg, (hk g (by rw [hv]; rfl)).trans hh, r⟩
theorem fin9c {w2 W3 : World} {D R : Nat} {gv x1 x2 x3 y0 y1 v cut : Value} {dr : Bool} (hx : Bx4 w2 D gv x1 x2 x3) (hr : Bx2 w2 R 41 y0 y1) (hne : D ≠ R)
    (hh : W3.heap = (((((w2.setCell ⟨D, 1, none⟩ (.bool false)).setCell ⟨D, 2, none⟩ (.bool false)).setCell ⟨D, 3, none⟩ cut).setCell ⟨R, 0, none⟩ (.bool dr)).setCell ⟨R, 1, none⟩ v).heap) :
    Bx2 W3 R 41 (.bool dr) v ∧ Bx4 W3 D gv (.bool false) (.bool false) cut ∧ (∀ k, k ≠ D → k ≠ R → W3.heap[k]? = w2.heap[k]?) ∧ W3.heap.size = w2.heap.size := by
  have h1 := ((hx.set1 (.bool false)).set2 (.bool false)).set3 cut
  have k1 : Bx2 (((w2.setCell ⟨D, 1, none⟩ (.bool false)).setCell ⟨D, 2, none⟩ (.bool false)).setCell ⟨D, 3, none⟩ cut) R 41 y0 y1 := by
    unfold Bx2
    rw [Below.heap_setCell _ ⟨D, 3, none⟩ cut R (Ne.symm hne), Below.heap_setCell _ ⟨D, 2, none⟩ _ R (Ne.symm hne), Below.heap_setCell _ ⟨D, 1, none⟩ _ R (Ne.symm hne)]
    exact hr
  have k2 := (k1.set0 (.bool dr)).set1 v
  refine ⟨?_, ?_, fun k h1 h2 => ?_, ?_⟩
  · unfold Bx2; rw [hh]; exact k2
  · unfold Bx4; rw [hh, Below.heap_setCell _ ⟨R, 1, none⟩ v D hne, Below.heap_setCell _ ⟨R, 0, none⟩ _ D hne]; exact h1
  · rw [hh, Below.heap_setCell _ ⟨R, 1, none⟩ v k h2, Below.heap_setCell _ ⟨R, 0, none⟩ _ k h2, Below.heap_setCell _ ⟨D, 3, none⟩ cut k h1, Below.heap_setCell _ ⟨D, 2, none⟩ _ k h1, Below.heap_setCell _ ⟨D, 1, none⟩ _ k h1]
  · rw [hh]; simp
theorem fin9d {W w2 W3 : World} {B D : Nat} {gv cv : Value} {op dr : Bool} {cl : List Int} {v cut x3 : Value} (hD : D < W.heap.size) (hbel : Below (W.heap.size + 1) (W.alloc (.cells #[.bool false, .slice none 0 0] 41)) w2)
    (hx : Bx4 w2 D gv (.bool op) (.bool dr) x3) (hr : Bx2 w2 W.heap.size 41 (.bool false) (.slice none 0 0)) (ho : Own W.heap.size w2 v cl) (hcut : Own B W cut [])
    (hh : W3.heap = (((((w2.setCell ⟨D, 1, none⟩ (.bool false)).setCell ⟨D, 2, none⟩ (.bool false)).setCell ⟨D, 3, none⟩ cut).setCell ⟨W.heap.size, 0, none⟩ (.bool dr)).setCell ⟨W.heap.size, 1, none⟩ v).heap) (h1 : W3.os = w2.os) (h2 : W3.tape = w2.tape) (h3 : W3.output = w2.output) (hcv : cut.ownBlock = cv.ownBlock) :
    Own W.heap.size W3 v cl ∧ Rx B D gv W3 ⟨false, false, []⟩ cut ∧ cut.ownBlock = cv.ownBlock ∧ Mq W (fun k => k = D) W3 (fun k => k = D) := by
  obtain ⟨f1, f2, f3, f4⟩ := fin9c hx hr (by omega) hh
  have hold : ∀ k, k < W.heap.size → w2.heap[k]? = W.heap[k]? := fun k hk => (hbel.block k (by omega)).trans (Below.heap_alloc _ _ _ hk)
  refine ⟨own_keep9 ho fun k hk => f3 k ?_ ?_, ⟨f2, own_keep9 hcut fun k hk => ?_⟩, hcv, ⟨?_, ?_, ?_, ?_, fun k hk hne => ?_, fun _ h => .inl h⟩⟩
  · have := (ho.lt k hk.symm).1; omega
  · intro e; subst e; exact hr.not_row (by decide) ho hk
  · have := (hcut.lt k hk.symm).2
    refine (f3 k ?_ (by omega)).trans (hold k this)
    intro e; subst e
    have hW : Bx4 W k gv (.bool op) (.bool dr) x3 := (hold k this).symm.trans hx
    exact hW.not_row hcut hk
  · rw [h1]; exact hbel.os
  · rw [h2]; exact hbel.tape
  · rw [h3]; exact hbel.output
  · rw [f4]; have := hbel.size; simp at this; omega
  · exact (f3 k hne (by omega)).trans (hold k hk)
theorem fin9n {W : World} {dr : Bool} : ∃ (Bs : Nat) (v : Value), Value.pointer (some ⟨W.heap.size + 1, 0, none⟩) = .pointer (some ⟨Bs, 0, none⟩) ∧ W.heap.size < Bs ∧ Bx2 ((W.alloc (.cells #[.bool false, .slice none 0 0] 41)).alloc (.cells #[.bool dr, .slice none 0 0] 41)).drew Bs 41 (.bool dr) v ∧ Hid (Own W.heap.size ((W.alloc (.cells #[.bool false, .slice none 0 0] 41)).alloc (.cells #[.bool dr, .slice none 0 0] 41)).drew v ([] : List Int)) ∧ Below (W.heap.size + 1) (W.alloc (.cells #[.bool false, .slice none 0 0] 41)) ((W.alloc (.cells #[.bool false, .slice none 0 0] 41)).alloc (.cells #[.bool dr, .slice none 0 0] 41)).drew := by
  have h1 := Bx2.new (W.alloc (.cells #[.bool false, .slice none 0 0] 41)) 41 (.bool dr) (.slice none 0 0)
  rw [World.size_alloc] at h1
  exact ⟨_, _, rfl, by omega, h1, World.ownsRow_nil _ _ _ _, ((Below.refl _ _).alloc (by simp) _).drew⟩
theorem fin9a {W w7 : World} {dr : Bool} {cl : List Int} {a7 : Option Addr} {c7 : Nat} (own7 : w7.ownsRow W.heap.size 3 1 (.slice a7 (0 + cl.length) c7) (0 + cl.length) ([] ++ cl.map (Value.int .i64))) (gr7 : (W.alloc (.cells #[.bool false, .slice none 0 0] 41)).drew.grownBy w7 none) :
    ∃ (Bs : Nat) (v : Value), Value.pointer (some ⟨w7.heap.size, 0, none⟩) = .pointer (some ⟨Bs, 0, none⟩) ∧ W.heap.size < Bs ∧ Bx2 (w7.alloc (.cells #[.bool dr, .slice a7 cl.length c7] 41)) Bs 41 (.bool dr) v ∧ Hid (Own W.heap.size (w7.alloc (.cells #[.bool dr, .slice a7 cl.length c7] 41)) v cl) ∧ Below (W.heap.size + 1) (W.alloc (.cells #[.bool false, .slice none 0 0] 41)) (w7.alloc (.cells #[.bool dr, .slice a7 cl.length c7] 41)) := by
  have hs : W.heap.size + 1 ≤ w7.heap.size := by have := gr7.size; simpa using this
  have hb : Below (W.heap.size + 1) (W.alloc (.cells #[.bool false, .slice none 0 0] 41)) w7 := ⟨gr7.os, gr7.tape, gr7.output, by simpa using hs, fun k hk => gr7.block k (by simpa using hk) (by simp)⟩
  rw [Nat.zero_add, List.nil_append] at own7
  exact ⟨_, _, rfl, by omega, Bx2.new _ _ _ _, World.ownsRow.alloc own7 _, hb.alloc hs _⟩
theorem fin9b {W w7 : World} {dr : Bool} {cl : List Int} {a7 : Option Addr} {c7 : Nat} (own7 : w7.ownsRow W.heap.size 3 1 (.slice a7 (0 + cl.length) c7) (0 + cl.length) ([] ++ cl.map (Value.int .i64))) (gr7 : ((W.alloc (.cells #[.bool false, .slice none 0 0] 41)).alloc (.cells #[.bool false, .slice none 0 0] 41)).drew.grownBy w7 none)
    (bx7 : Bx2 w7 (W.heap.size + 1) 41 (.bool false) (.slice none 0 0)) :
    ∃ (Bs : Nat) (v : Value), Value.pointer (some ⟨W.heap.size + 1, 0, none⟩) = .pointer (some ⟨Bs, 0, none⟩) ∧ W.heap.size < Bs ∧ Bx2 ((w7.setCell ⟨W.heap.size + 1, 0, none⟩ (.bool dr)).setCell ⟨W.heap.size + 1, 1, none⟩ (.slice a7 cl.length c7)) Bs 41 (.bool dr) v ∧ Hid (Own W.heap.size ((w7.setCell ⟨W.heap.size + 1, 0, none⟩ (.bool dr)).setCell ⟨W.heap.size + 1, 1, none⟩ (.slice a7 cl.length c7)) v cl) ∧ Below (W.heap.size + 1) (W.alloc (.cells #[.bool false, .slice none 0 0] 41)) ((w7.setCell ⟨W.heap.size + 1, 0, none⟩ (.bool dr)).setCell ⟨W.heap.size + 1, 1, none⟩ (.slice a7 cl.length c7)) := by
  have hs : W.heap.size + 2 ≤ w7.heap.size := by have := gr7.size; simpa using this
  have hb : Below (W.heap.size + 1) (W.alloc (.cells #[.bool false, .slice none 0 0] 41)) w7 := ⟨gr7.os, gr7.tape, gr7.output, by simp; omega, fun k hk => by
    rw [gr7.block k (by simp; omega) (by simp)]
    exact Below.heap_alloc _ _ _ (by simpa using hk)⟩
  rw [Nat.zero_add, List.nil_append] at own7
  have o7 : Own W.heap.size w7 (.slice a7 cl.length c7) cl := own7
  have b1 := bx7.set0 (.bool dr)
  have o8 : Own W.heap.size (w7.setCell ⟨W.heap.size + 1, 0, none⟩ (.bool dr)) (.slice a7 cl.length c7) cl := World.ownsRow.kept o7 (grown_set w7 ⟨W.heap.size + 1, 0, none⟩ _) (.inr (bx7.not_row (by decide) o7).symm)
  have o9 : Own W.heap.size ((w7.setCell ⟨W.heap.size + 1, 0, none⟩ (.bool dr)).setCell ⟨W.heap.size + 1, 1, none⟩ (.slice a7 cl.length c7)) (.slice a7 cl.length c7) cl := World.ownsRow.kept o8 (grown_set _ ⟨W.heap.size + 1, 1, none⟩ _) (.inr (b1.not_row (by decide) o8).symm)
  exact ⟨_, _, rfl, by omega, b1.set1 _, o9, (hb.setCell (p := ⟨W.heap.size + 1, 0, none⟩) (Nat.le_refl _) _).setCell (p := ⟨W.heap.size + 1, 1, none⟩) (Nat.le_refl _) _⟩

set_option maxRecDepth 100000 in
set_option maxHeartbeats 3200000 in
theorem end0_any (B D : Nat) (gv : Value) (W : World) (op dr : Bool) (cl : List Int) (cv : Value) (h : Rx B D gv W ⟨op, dr, cl⟩ cv) (hB : B ≤ W.heap.size) (hl : cl.length * 8 ≤ 140737488351232) :
    Calls Tryd.prog 67 #[.pointer (some ⟨D, 0, none⟩)] W fun e W' => ∃ v cv', e = .returned (.agg #[.bool dr, v]) ∧ Own W.heap.size W' v cl ∧ Rx B D gv W' ⟨false, false, []⟩ cv' ∧ cv'.ownBlock = cv.ownBlock ∧ Mq W (fun k => k = D) W' (fun k => k = D) := by
  have hbx : Bx4 W D gv (.bool op) (.bool dr) cv := h.box
  have ho : Own B W cv cl := h.own
  have hD := hbx.lt
  have HX : Hid (Bx4 W D gv (.bool op) (.bool dr) cv) := hbx
  have HO : Hid (Own B W cv cl) := ho
  obtain ⟨i0, hi, hz0, hz1, hz2⟩ := info_parts Tryd.info3
  have hB2 := hbx.below (below_box W (.cells #[.bool false, .slice none 0 0] 41))
  obtain ⟨_, _, c2, c3⟩ := hB2.c
  clear hB2 hbx h
  rcases own_cut9 ho with ⟨rfl, rfl⟩ | ⟨g, cap, rfl, hcm, hlc, hcut⟩
  · have HCut : Hid (Own B W (.slice none 0 0) []) := ho
    have hrun : ∀ ty w, (Builtin.append_ #[39, 39] ty #[.slice none 0 0, .slice none 0 0]).run Tryd.prog w = .ok (.slice none 0 0) w := fun ty w => run_append_owned_none (P := Tryd.prog) w 0 39 ty 3 i0 1 Tryd.underlying39 hi _ _ _ (World.ownsRow_nil w 0 3 1)
    clear ho
    go_enter Tryd.func67, Tryd.ntmps67
    go_upto_region 1 with fail
    go_cut [3] from 4 to 13 (fun t wx => ∃ (Bs : Nat) (v : Value), t = .pointer (some ⟨Bs, 0, none⟩) ∧ W.heap.size < Bs ∧ Bx2 wx Bs 41 (.bool dr) v ∧ Hid (Own W.heap.size wx v ([] : List Int)) ∧ Below (W.heap.size + 1) (W.alloc (.cells #[.bool false, .slice none 0 0] 41)) wx)
    case first =>
      go_region_law fail
      all_goals
        go_wp2_with fail
        go_meet
        exact fin9n
    case rest =>
    obtain ⟨Bs, v, rfl, hBs, hbx, HOv, hbel⟩ := hcut
    obtain ⟨av, cv', hv⟩ := own_form HOv.out
    simp only [List.length_nil] at hv
    subst hv
    generalize wc = w2 at *
    have hrb : Bx2 w2 W.heap.size 41 (.bool false) (.slice none 0 0) := (hbel.block W.heap.size (by omega)).trans (Bx2.new W 41 (.bool false) (.slice none 0 0))
    have hx2 : Bx4 w2 D gv (.bool op) (.bool dr) (.slice none 0 0) := (hbel.block D (by omega)).trans (HX.out.below (below_box W _))
    obtain ⟨_, d1, d2, d3⟩ := hx2.c
    obtain ⟨f1, f2, f3⟩ := hx2.f
    have HBX2 : Hid (Bx2 w2 Bs 41 (.bool dr) (.slice av 0 cv')) := hbx
    have HRB : Hid (Bx2 w2 W.heap.size 41 (.bool false) (.slice none 0 0)) := hrb
    have HX2 : Hid (Bx4 w2 D gv (.bool op) (.bool dr) (.slice none 0 0)) := hx2
    have hne1 : D ≠ Bs := by omega
    have hne2 : D ≠ W.heap.size := by omega
    have e0 := hbx.c0
    have e1 := hbx.c1
    have r0 := hrb.c0
    have r1 := hrb.c1
    have s0 := hrb.f0
    have s1 := hrb.f1
    clear hbx hrb hx2 c2 c3
    go_upto_region 2 with fail
    go_region_with (fail)
    all_goals
      go_wp2_with fail
      have hne0 : (D ≠ W.heap.size) := hne2
      have q := fin9d (cv := .slice none 0 0) (W3 := (((((w2.setCell ⟨D, 1, none⟩ (.bool false)).setCell ⟨D, 2, none⟩ (.bool false)).setCell ⟨D, 3, none⟩ (.slice none 0 0)).setCell ⟨W.heap.size, 0, none⟩ (.bool dr)).setCell ⟨W.heap.size, 1, none⟩ (.slice av 0 cv')).drew) hD hbel HX2.out HRB.out HOv.out HCut.out rfl rfl rfl rfl rfl
      have q2 := (fin9c (W3 := (((((w2.setCell ⟨D, 1, none⟩ (.bool false)).setCell ⟨D, 2, none⟩ (.bool false)).setCell ⟨D, 3, none⟩ (.slice none 0 0)).setCell ⟨W.heap.size, 0, none⟩ (.bool dr)).setCell ⟨W.heap.size, 1, none⟩ (.slice av 0 cv')).drew) (v := .slice av 0 cv') (dr := dr) (cut := .slice none 0 0) HX2.out HRB.out hne2 rfl).1
      refine bodyPost_ret (ret_stp rfl rfl q2) rfl ?_
      exact ⟨_, _, rfl, q⟩
  · have HCut : Hid (Own B W (.slice (some ⟨g, 0, none⟩) 0 cap) []) := hcut
    have hgl : g < W.heap.size := (ho.lt g rfl).2
    have HNw : Hid (∀ W', Below W.heap.size W W' → ∀ j u, (cl.map (Value.int .i64))[j]? = some u → W'.cell? ((⟨g, 0, none⟩ : Addr).add j) = some u) := fun W' hb j u hu => by
      have := World.ownsRow.cells HO.out (g := g) rfl j u hu
      rw [Addr.add_lit] at this ⊢
      exact (hb.cell (p := ⟨g, 0 + j, none⟩) hgl).trans this
    have HBX : Hid (∀ w7, ((W.alloc (.cells #[.bool false, .slice none 0 0] 41)).drew.alloc (.cells #[.bool false, .slice none 0 0] 41)).grownBy w7 none → Bx2 w7 (W.heap.size + 1) 41 (.bool false) (.slice none 0 0)) := fun w7 hg => by
      have h1 := Bx2.new (W.alloc (.cells #[.bool false, .slice none 0 0] 41)).drew 41 (.bool false) (.slice none 0 0)
      have h2 : (W.alloc (.cells #[.bool false, .slice none 0 0] 41)).drew.heap.size = W.heap.size + 1 := by simp
      rw [h2] at h1
      exact h1.kept hg (by simp)
    have HDx : Hid (∀ Wx w7, Below W.heap.size W Wx → Wx.grownBy w7 none → w7.cell? ⟨D, 2, none⟩ = some (.bool dr) ∧ D < w7.heap.size ∧ Below W.heap.size W w7) := fun Wx w7 h1 h2 => by
      have h3 : Below W.heap.size W w7 := h1.grown h2 h1.size (fun k hk => by cases hk)
      exact ⟨(HX.out.below h3).c.2.2.1, (HX.out.below h3).lt, h3⟩
    clear hcut ho
    go_enter Tryd.func67, Tryd.ntmps67
    go_upto_region 1 with fail
    go_cut [3] from 4 to 13 (fun t wx => ∃ (Bs : Nat) (v : Value), t = .pointer (some ⟨Bs, 0, none⟩) ∧ W.heap.size < Bs ∧ Bx2 wx Bs 41 (.bool dr) v ∧ Hid (Own W.heap.size wx v cl) ∧ Below (W.heap.size + 1) (W.alloc (.cells #[.bool false, .slice none 0 0] 41)) wx)
    case first =>
      go_region_law (first
        | (refine step_append_own9 rfl (.const (.slice none 0 0)) (.tmp 11) 39 rfl W.heap.size 3 i0 (.int .i64 0) 1 8 Tryd.underlying39 hi hz0 hz1 hz2 rfl (by decide) (.slice none 0 0) 0 [] rfl (World.ownsRow_nil _ _ _ _) ⟨g, 0, none⟩ cl.length cap (cl.map (Value.int .i64)) (by simp [Act.eval, Act.put]) (by simp) (HNw.out _ (by first | exact (below_box _ _).drew | exact (((below_box _ _).drew).alloc (by simp) _))) (ints_oneCell' cl) (by unfold maxLen; omega) (by omega) (by simp; try omega) ?_; intro v7 w7 own7 gr7; obtain ⟨a7, c7, hv7⟩ := own_form9 own7; subst hv7; obtain ⟨d2, hD7, hW7⟩ := HDx.out _ w7 (by first | exact (below_box _ _).drew | exact (((below_box _ _).drew).alloc (by simp) _)) gr7; first | (have bx7 := HBX.out w7 gr7; have p0 := bx7.c0; have p1 := bx7.c1; have q0 := bx7.f0; have q1 := bx7.f1) | skip))
      all_goals
        go_wp2_with fail
        go_meet
        first
          | exact fin9a own7 gr7
          | exact fin9b own7 gr7 bx7
    case rest =>
    obtain ⟨Bs, v, rfl, hBs, hbx, HOv, hbel⟩ := hcut
    obtain ⟨av, cv', hv⟩ := own_form HOv.out
    subst hv
    generalize wc = w2 at *
    have hrb : Bx2 w2 W.heap.size 41 (.bool false) (.slice none 0 0) := (hbel.block W.heap.size (by omega)).trans (Bx2.new W 41 (.bool false) (.slice none 0 0))
    have hx2 : Bx4 w2 D gv (.bool op) (.bool dr) (.slice (some ⟨g, 0, none⟩) cl.length cap) := (hbel.block D (by omega)).trans (HX.out.below (below_box W _))
    obtain ⟨_, d1, d2, d3⟩ := hx2.c
    obtain ⟨f1, f2, f3⟩ := hx2.f
    have HBX2 : Hid (Bx2 w2 Bs 41 (.bool dr) (.slice av cl.length cv')) := hbx
    have HRB : Hid (Bx2 w2 W.heap.size 41 (.bool false) (.slice none 0 0)) := hrb
    have HX2 : Hid (Bx4 w2 D gv (.bool op) (.bool dr) (.slice (some ⟨g, 0, none⟩) cl.length cap)) := hx2
    have hne1 : D ≠ Bs := by omega
    have hne2 : D ≠ W.heap.size := by omega
    have e0 := hbx.c0
    have e1 := hbx.c1
    have r0 := hrb.c0
    have r1 := hrb.c1
    have s0 := hrb.f0
    have s1 := hrb.f1
    clear hbx hrb hx2 c2 c3 HNw HBX HDx
    go_upto_region 2 with fail
    go_region_with (fail)
    all_goals
      go_wp2_with fail
      refine bodyPost_ret (ret_stp rfl rfl (fin9c HX2.out HRB.out hne2 rfl).1) rfl ?_
      exact ⟨_, _, rfl, fin9d hD hbel HX2.out HRB.out HOv.out HCut.out rfl rfl rfl rfl rfl⟩

theorem end_any (B D : Nat) (gv : Value) (W : World) (st : RSt) (cv : Value) (h : Rx B D gv W st cv) (hB : B ≤ W.heap.size) (hl : st.cl.length * 8 ≤ 140737488351232) :
    Calls Tryd.prog 67 #[.pointer (some ⟨D, 0, none⟩)] W fun e W' => ∃ v cv', e = .returned (.agg #[.bool st.dr, v]) ∧ Own W.heap.size W' v st.cl ∧ Rx B D gv W' ⟨false, false, []⟩ cv' ∧ cv'.ownBlock = cv.ownBlock ∧ Mq W (fun k => k = D) W' (fun k => k = D) := by
  obtain ⟨op, dr, cl⟩ := st
  exact end0_any B D gv W op dr cl cv h hB hl

end Go.Proofs.YtaipajalkendaaaDoor
