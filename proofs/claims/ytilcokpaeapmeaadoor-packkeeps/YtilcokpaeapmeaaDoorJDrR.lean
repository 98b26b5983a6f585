/-
  joined: DrR DrE DrT PaM PaW PaR
-/
import Derived.Test.YtilcokpaeapmeaaDoorKDrN
import Derived.Test.YtilcokpaeapmeaaDoorKDrC
import Derived.Deep.RegionLaw
import Derived.Deep.RegionHeld
import Derived.Deep.RegionWith
import Derived.Deep.CutRange
import Derived.Laws.ResultCell
import Derived.Test.YtilcokpaeapmeaaDoorJRdV
import Derived.Test.YtilcokpaeapmeaaDoorKApp2
import Derived.Sort.AtCall
set_option linter.unusedSimpArgs false
set_option linter.unusedVariables false
namespace Go.Proofs.YtilcokpaeapmeaaDoor
open Go Go.RowKit Go.Lib Go.Sort

/-- a step that leaves all but a set of blocks; the set behind it -/
structure Mq (A : World) (Q : Nat → Prop) (B : World) (Q' : Nat → Prop) : Prop where
  os : B.os = A.os
  tape : B.tape = A.tape
  output : B.output = A.output
  size : A.heap.size ≤ B.heap.size
  block : ∀ k, k < A.heap.size → ¬ Q k → B.heap[k]? = A.heap[k]?
  new : ∀ k, Q' k → Q k ∨ A.heap.size ≤ k
theorem Mq.refl (A : World) (Q : Nat → Prop) : Mq A Q A Q := ⟨rfl, rfl, rfl, Nat.le_refl _, fun _ _ _ => rfl, fun _ h => .inl h⟩
theorem Mq.trans {A B C : World} {P Q R : Nat → Prop} (h : Mq A P B Q) (k : Mq B Q C R) : Mq A P C R :=
  ⟨k.os.trans h.os, k.tape.trans h.tape, k.output.trans h.output, Nat.le_trans h.size k.size, fun i hi hp => (k.block i (Nat.lt_of_lt_of_le hi h.size) (fun hq => by
    rcases h.new i hq with h1 | h1
    · exact hp h1
    · omega)).trans (h.block i hi hp), fun i hi => by
    rcases k.new i hi with h1 | h1
    · exact h.new i h1
    · exact .inr (Nat.le_trans h.size h1)⟩
theorem Mq.below {A B : World} (h : Below A.heap.size A B) (Q : Nat → Prop) : Mq A Q B Q := ⟨h.os, h.tape, h.output, h.size, fun k hk _ => h.block k hk, fun _ h => .inl h⟩
theorem Mq.cell {A B : World} {Q Q' : Nat → Prop} (h : Mq A Q B Q') {p : Addr} (h1 : p.block < A.heap.size) (h2 : ¬ Q p.block) : B.cell? p = A.cell? p := World.cell?_of_block (h.block _ h1 h2)
theorem Mq.low {A B : World} {Q Q' : Nat → Prop} {N : Nat} {w : World} (h : Mq A Q B Q') (hb : Below N w A) (hN : N ≤ A.heap.size) (hQ : ∀ k, Q k → N ≤ k) : Below N w B :=
  ⟨h.os.trans hb.os, h.tape.trans hb.tape, h.output.trans hb.output, Nat.le_trans hb.size h.size, fun k hk => (h.block k (Nat.lt_of_lt_of_le hk hN) (fun hq => by have := hQ k hq; omega)).trans (hb.block k hk)⟩

/-- a box of four cells -/
def Br4 (W : World) (D : Nat) (x0 x1 x2 x3 : Value) : Prop := W.heap[D]? = some (.cells #[x0, x1, x2, x3] 83 (0, 0))
theorem Br4.lt {W : World} {D : Nat} {x0 x1 x2 x3 : Value} (h : Br4 W D x0 x1 x2 x3) : D < W.heap.size := (Array.getElem?_eq_some_iff.1 h).1
theorem Br4.c {W : World} {D : Nat} {x0 x1 x2 x3 : Value} (h : Br4 W D x0 x1 x2 x3) : W.cell? ⟨D, 0, none⟩ = some x0 ∧ W.cell? ⟨D, 1, none⟩ = some x1 ∧ W.cell? ⟨D, 2, none⟩ = some x2 ∧ W.cell? ⟨D, 3, none⟩ = some x3 := by
  simp [World.cell?, show W.heap[D]? = _ from h]
theorem Br4.f {W : World} {D : Nat} {x0 x1 x2 x3 : Value} (h : Br4 W D x0 x1 x2 x3) : W.frozen? ⟨D, 1, none⟩ = false ∧ W.frozen? ⟨D, 2, none⟩ = false ∧ W.frozen? ⟨D, 3, none⟩ = false := by
  simp [World.frozen?, show W.heap[D]? = _ from h]
theorem Br4.kept {W W' : World} {D : Nat} {x0 x1 x2 x3 : Value} (h : Br4 W D x0 x1 x2 x3) (hk : W'.heap[D]? = W.heap[D]?) : Br4 W' D x0 x1 x2 x3 := hk.trans h
theorem Br4.below {W W' : World} {D : Nat} {x0 x1 x2 x3 : Value} (h : Br4 W D x0 x1 x2 x3) (hb : Below W.heap.size W W') : Br4 W' D x0 x1 x2 x3 := (hb.block D h.lt).trans h
theorem Br4.set1 {W : World} {D : Nat} {x0 x1 x2 x3 : Value} (h : Br4 W D x0 x1 x2 x3) (y : Value) : Br4 (W.setCell ⟨D, 1, none⟩ y) D x0 y x2 x3 := by
  obtain ⟨hlt, hk⟩ := Array.getElem?_eq_some_iff.1 h
  show (W.heap.modify D _)[D]? = _
  rw [Array.getElem?_eq_getElem (by rw [Array.size_modify]; exact hlt), Array.getElem_modify_self, hk]; rfl
theorem Br4.set2 {W : World} {D : Nat} {x0 x1 x2 x3 : Value} (h : Br4 W D x0 x1 x2 x3) (y : Value) : Br4 (W.setCell ⟨D, 2, none⟩ y) D x0 x1 y x3 := by
  obtain ⟨hlt, hk⟩ := Array.getElem?_eq_some_iff.1 h
  show (W.heap.modify D _)[D]? = _
  rw [Array.getElem?_eq_getElem (by rw [Array.size_modify]; exact hlt), Array.getElem_modify_self, hk]; rfl
theorem Br4.set3 {W : World} {D : Nat} {x0 x1 x2 x3 : Value} (h : Br4 W D x0 x1 x2 x3) (y : Value) : Br4 (W.setCell ⟨D, 3, none⟩ y) D x0 x1 x2 y := by
  obtain ⟨hlt, hk⟩ := Array.getElem?_eq_some_iff.1 h
  show (W.heap.modify D _)[D]? = _
  rw [Array.getElem?_eq_getElem (by rw [Array.size_modify]; exact hlt), Array.getElem_modify_self, hk]; rfl
theorem Br4.not_row {W : World} {D : Nat} {x0 x1 x2 x3 : Value} (h : Br4 W D x0 x1 x2 x3) {base : Nat} {v : Value} {zs : List Int} (hr : Own base W v zs) : some D ≠ v.ownBlock := by
  rcases hr.2 with ⟨rfl, _⟩ | ⟨g, cap, cur, rfl, _, hgb, _⟩
  · simp [Value.ownBlock]
  · intro e'
    have e2 : D = g := by simpa [Value.ownBlock] using e'
    subst e2
    rw [show W.heap[D]? = _ from h] at hgb
    cases hgb
/-- the reader: its box, its literals so far in a row of its own -/
structure Rx (B D : Nat) (gv : Value) (W : World) (st : RSt) (cv : Value) : Prop where
  box : Br4 W D gv (.bool st.op) (.bool st.dr) cv
  own : Own B W cv st.cl
theorem Rx.kept {B D : Nat} {gv : Value} {W W' : World} {st : RSt} {cv : Value} (h : Rx B D gv W st cv) (hD : W'.heap[D]? = W.heap[D]?) (hc : ∀ k, some k = cv.ownBlock → W'.heap[k]? = W.heap[k]?) : Rx B D gv W' st cv := by
  refine ⟨h.box.kept hD, h.own.1, ?_⟩
  rcases h.own.2 with hn | ⟨g, cap, cur, hv, hg, hh, r⟩
  · exact .inl hn
  · exact .inr ⟨g, cap, cur, hv, hg, (hc g (by rw [hv]; rfl)).trans hh, r⟩
theorem Rx.below {B D : Nat} {gv : Value} {W W' : World} {st : RSt} {cv : Value} (h : Rx B D gv W st cv) (hb : Below W.heap.size W W') : Rx B D gv W' st cv := ⟨h.box.below hb, h.own.below hb⟩
theorem own_cut9 {B : Nat} {W : World} {v : Value} {zs : List Int} (h : Own B W v zs) : (v = .slice none 0 0 ∧ zs = []) ∨ ∃ g cap, v = .slice (some ⟨g, 0, none⟩) zs.length cap ∧ cap ≤ maxLen ∧ zs.length ≤ cap ∧ Own B W (.slice (some ⟨g, 0, none⟩) 0 cap) [] := by
  rcases h.2 with ⟨rfl, hn⟩ | ⟨g, cap, cur, rfl, hg, hh, hn, hm, hs, ht⟩
  · exact .inl ⟨rfl, List.length_eq_zero_iff.1 hn⟩
  · exact .inr ⟨g, cap, rfl, hm, hn, rfl, .inr ⟨g, cap, cur, rfl, hg, hh, Nat.zero_le _, hm, hs, by simp⟩⟩

end Go.Proofs.YtilcokpaeapmeaaDoor
set_option linter.unusedSimpArgs false
set_option linter.unusedVariables false
namespace Go.Proofs.YtilcokpaeapmeaaDoor
open Go Go.RowKit Go.Lib Go.Sort

theorem mq_box {W W' : World} {D : Nat} (h : Below W.heap.size W W') : Mq W (fun k => k = D) W' (fun k => k = D) := Mq.below h _
theorem mq_set {W W' : World} {D : Nat} (h : Mq W (fun k => k = D) W' (fun k => k = D)) (hD : D < W.heap.size) (o : Nat) (v : Value) : Mq W (fun k => k = D) (W'.setCell ⟨D, o, none⟩ v) (fun k => k = D) :=
  h.trans ⟨rfl, rfl, rfl, by rw [World.size_setCell]; exact Nat.le_refl _, fun k _ hk => Below.heap_setCell _ _ _ k hk, fun _ h => .inl h⟩

theorem own_form9 {B : Nat} {w : World} {v : Value} {n : Nat} {xs : List Value} (h : w.ownsRow B 3 1 v n xs) : ∃ a c, v = .slice a n c := by
  rcases h.2 with ⟨rfl, hn⟩ | ⟨g, cap, cur, rfl, _⟩
  · exact ⟨none, 0, by rw [hn]⟩
  · exact ⟨_, cap, rfl⟩
/-- append onto a row of the call's own, as one step of a region that draws -/
theorem step_append_own9 {P : Program} {ops : Array Oper} {o : Oper} {a : Act} {w : World} {K : Act → World → Prop} {Q : Exit → Act → World → Prop} {E : Prop}
    (hg : o.guard = none) (s x : Operand) (t : TypeId) (hop : o.op = Op.call { callee := Callee.builtin Builtin.append, args := #[s, x], argTypes := #[t, t] })
    (base : Nat) (e : TypeId) (i : TypeInfo) (z : Value) (size bytes : Nat) (h1 : P.underlying t = some (.slice e)) (h2 : P.info? e = some i) (h3 : i.zero = some z) (h4 : i.size = size) (h5 : i.bytes = bytes) (h6 : z.cells.size = size) (h7 : 0 < size)
    (v : Value) (n : Nat) (xs : List Value) (hs : a.eval s = v) (hown : w.ownsRow base e size v n xs)
    (ad : Addr) (m c : Nat) (news : List Value) (hx : a.eval x = .slice (some ad) m c) (hn : news.length = m * size) (hc : ∀ j u, news[j]? = some u → w.cell? (ad.add j) = some u) (h1c : ∀ u ∈ news, u.oneCell' = true)
    (b1 : n + m ≤ maxLen) (b2 : (n + m) * bytes ≤ 140737488355328) (hbase : base ≤ w.heap.size)
    (hK : ∀ v' w', w'.ownsRow base e size v' (n + m) (xs ++ news) → w.grownBy w' v.ownBlock → K (a.put o.dst v') w') :
    if Region.wanted o (yielded ops a.tmps) = true then Oper.wp P o a w K Q else E := by
  have hw : Region.wanted o (yielded ops a.tmps) = true := by simp [Region.wanted, hg]
  rw [if_pos hw]
  obtain ⟨v', w', hrun, r1, r2, _⟩ := run_append_own (P := P) w base t o.type e i z size bytes h1 h2 h3 h4 h5 h6 h7 v n xs hown ad m c news hn hc h1c b1 b2 hbase
  unfold Oper.wp
  simp [execOp, hop, resolve, invoke, builtin, hs, hx, hrun, Result.andThen]
  exact hK v' w' r1 r2

theorem ret_stp {fn : Func} {p : Tmp} {tmps : Array Value} {W : World} {D : Nat} {x y : Value} (h : fn.results = #[.cell p 61]) (hp : tmps.getD p undef = .pointer (some ⟨D, 0, none⟩)) (hb : Bx2 W D 61 x y) :
    (results fn tmps).run Tryd.prog W = .ok (.agg #[x, y]) W := by
  have c0 := hb.c0
  have c1 := hb.c1
  have hp' : tmps[p]?.getD undef = .pointer (some ⟨D, 0, none⟩) := by rw [← hp]; simp
  unfold results
  rw [h]
  simp [go_sem, hp', c0, c1]
theorem own_keep9 {B : Nat} {W W' : World} {v : Value} {zs : List Int} (h : Own B W v zs) (hk : ∀ k, some k = v.ownBlock → W'.heap[k]? = W.heap[k]?) : Own B W' v zs := by
  refine ⟨h.1, ?_⟩
  rcases h.2 with hn | ⟨g, cap, cur, hv, hg, hh, r⟩
  · exact .inl hn
  · exact .inr ⟨g, cap, cur, hv, hg, (hk g (by rw [hv]; rfl)).trans hh, r⟩
theorem fin9c {w2 W3 : World} {D R : Nat} {gv x1 x2 x3 y0 y1 v cut : Value} {dr : Bool} (hx : Br4 w2 D gv x1 x2 x3) (hr : Bx2 w2 R 61 y0 y1) (hne : D ≠ R)
    (hh : W3.heap = (((((w2.setCell ⟨D, 1, none⟩ (.bool false)).setCell ⟨D, 2, none⟩ (.bool false)).setCell ⟨D, 3, none⟩ cut).setCell ⟨R, 0, none⟩ (.bool dr)).setCell ⟨R, 1, none⟩ v).heap) :
    Bx2 W3 R 61 (.bool dr) v ∧ Br4 W3 D gv (.bool false) (.bool false) cut ∧ (∀ k, k ≠ D → k ≠ R → W3.heap[k]? = w2.heap[k]?) ∧ W3.heap.size = w2.heap.size := by
  have h1 := ((hx.set1 (.bool false)).set2 (.bool false)).set3 cut
  have k1 : Bx2 (((w2.setCell ⟨D, 1, none⟩ (.bool false)).setCell ⟨D, 2, none⟩ (.bool false)).setCell ⟨D, 3, none⟩ cut) R 61 y0 y1 := by
    unfold Bx2
    rw [Below.heap_setCell _ ⟨D, 3, none⟩ cut R (Ne.symm hne), Below.heap_setCell _ ⟨D, 2, none⟩ _ R (Ne.symm hne), Below.heap_setCell _ ⟨D, 1, none⟩ _ R (Ne.symm hne)]
    exact hr
  have k2 := (k1.set0 (.bool dr)).set1 v
  refine ⟨?_, ?_, fun k h1 h2 => ?_, ?_⟩
  · unfold Bx2; rw [hh]; exact k2
  · unfold Br4; rw [hh, Below.heap_setCell _ ⟨R, 1, none⟩ v D hne, Below.heap_setCell _ ⟨R, 0, none⟩ _ D hne]; exact h1
  · rw [hh, Below.heap_setCell _ ⟨R, 1, none⟩ v k h2, Below.heap_setCell _ ⟨R, 0, none⟩ _ k h2, Below.heap_setCell _ ⟨D, 3, none⟩ cut k h1, Below.heap_setCell _ ⟨D, 2, none⟩ _ k h1, Below.heap_setCell _ ⟨D, 1, none⟩ _ k h1]
  · rw [hh]; simp
theorem fin9d {W w2 W3 : World} {B D : Nat} {gv cv : Value} {op dr : Bool} {cl : List Int} {v cut x3 : Value} (hD : D < W.heap.size) (hbel : Below (W.heap.size + 1) (W.alloc (.cells #[.bool false, .slice none 0 0] 61)) w2)
    (hx : Br4 w2 D gv (.bool op) (.bool dr) x3) (hr : Bx2 w2 W.heap.size 61 (.bool false) (.slice none 0 0)) (ho : Own W.heap.size w2 v cl) (hcut : Own B W cut [])
    (hh : W3.heap = (((((w2.setCell ⟨D, 1, none⟩ (.bool false)).setCell ⟨D, 2, none⟩ (.bool false)).setCell ⟨D, 3, none⟩ cut).setCell ⟨W.heap.size, 0, none⟩ (.bool dr)).setCell ⟨W.heap.size, 1, none⟩ v).heap) (h1 : W3.os = w2.os) (h2 : W3.tape = w2.tape) (h3 : W3.output = w2.output) (hcv : cut.ownBlock = cv.ownBlock) :
    Own W.heap.size W3 v cl ∧ Rx B D gv W3 ⟨false, false, []⟩ cut ∧ cut.ownBlock = cv.ownBlock ∧ Mq W (fun k => k = D) W3 (fun k => k = D) := by
  obtain ⟨f1, f2, f3, f4⟩ := fin9c hx hr (by omega) hh
  have hold : ∀ k, k < W.heap.size → w2.heap[k]? = W.heap[k]? := fun k hk => (hbel.block k (by omega)).trans (Below.heap_alloc _ _ _ hk)
  refine ⟨own_keep9 ho fun k hk => f3 k ?_ ?_, ⟨f2, own_keep9 hcut fun k hk => ?_⟩, hcv, ⟨?_, ?_, ?_, ?_, fun k hk hne => ?_, fun _ h => .inl h⟩⟩
  · have := (ho.lt k hk.symm).1; omega
  · intro e; subst e; exact hr.not_row (by decide) ho hk
  · have := (hcut.lt k hk.symm).2
    refine (f3 k ?_ (by omega)).trans (hold k this)
    intro e; subst e
    have hW : Br4 W k gv (.bool op) (.bool dr) x3 := (hold k this).symm.trans hx
    exact hW.not_row hcut hk
  · rw [h1]; exact hbel.os
  · rw [h2]; exact hbel.tape
  · rw [h3]; exact hbel.output
  · rw [f4]; have := hbel.size; simp at this; omega
  · exact (f3 k hne (by omega)).trans (hold k hk)
theorem fin9n {W : World} {dr : Bool} : ∃ (Bs : Nat) (v : Value), Value.pointer (some ⟨W.heap.size + 1, 0, none⟩) = .pointer (some ⟨Bs, 0, none⟩) ∧ W.heap.size < Bs ∧ Bx2 ((W.alloc (.cells #[.bool false, .slice none 0 0] 61)).alloc (.cells #[.bool dr, .slice none 0 0] 61)).drew Bs 61 (.bool dr) v ∧ Hid (Own W.heap.size ((W.alloc (.cells #[.bool false, .slice none 0 0] 61)).alloc (.cells #[.bool dr, .slice none 0 0] 61)).drew v ([] : List Int)) ∧ Below (W.heap.size + 1) (W.alloc (.cells #[.bool false, .slice none 0 0] 61)) ((W.alloc (.cells #[.bool false, .slice none 0 0] 61)).alloc (.cells #[.bool dr, .slice none 0 0] 61)).drew := by
  have h1 := Bx2.new (W.alloc (.cells #[.bool false, .slice none 0 0] 61)) 61 (.bool dr) (.slice none 0 0)
  rw [World.size_alloc] at h1
  exact ⟨_, _, rfl, by omega, h1, World.ownsRow_nil _ _ _ _, ((Below.refl _ _).alloc (by simp) _).drew⟩
theorem fin9a {W w7 : World} {dr : Bool} {cl : List Int} {a7 : Option Addr} {c7 : Nat} (own7 : w7.ownsRow W.heap.size 3 1 (.slice a7 (0 + cl.length) c7) (0 + cl.length) ([] ++ cl.map (Value.int .i64))) (gr7 : (W.alloc (.cells #[.bool false, .slice none 0 0] 61)).drew.grownBy w7 none) :
    ∃ (Bs : Nat) (v : Value), Value.pointer (some ⟨w7.heap.size, 0, none⟩) = .pointer (some ⟨Bs, 0, none⟩) ∧ W.heap.size < Bs ∧ Bx2 (w7.alloc (.cells #[.bool dr, .slice a7 cl.length c7] 61)) Bs 61 (.bool dr) v ∧ Hid (Own W.heap.size (w7.alloc (.cells #[.bool dr, .slice a7 cl.length c7] 61)) v cl) ∧ Below (W.heap.size + 1) (W.alloc (.cells #[.bool false, .slice none 0 0] 61)) (w7.alloc (.cells #[.bool dr, .slice a7 cl.length c7] 61)) := by
  have hs : W.heap.size + 1 ≤ w7.heap.size := by have := gr7.size; simpa using this
  have hb : Below (W.heap.size + 1) (W.alloc (.cells #[.bool false, .slice none 0 0] 61)) w7 := ⟨gr7.os, gr7.tape, gr7.output, by simpa using hs, fun k hk => gr7.block k (by simpa using hk) (by simp)⟩
  rw [Nat.zero_add, List.nil_append] at own7
  exact ⟨_, _, rfl, by omega, Bx2.new _ _ _ _, World.ownsRow.alloc own7 _, hb.alloc hs _⟩
theorem fin9b {W w7 : World} {dr : Bool} {cl : List Int} {a7 : Option Addr} {c7 : Nat} (own7 : w7.ownsRow W.heap.size 3 1 (.slice a7 (0 + cl.length) c7) (0 + cl.length) ([] ++ cl.map (Value.int .i64))) (gr7 : ((W.alloc (.cells #[.bool false, .slice none 0 0] 61)).alloc (.cells #[.bool false, .slice none 0 0] 61)).drew.grownBy w7 none)
    (bx7 : Bx2 w7 (W.heap.size + 1) 61 (.bool false) (.slice none 0 0)) :
    ∃ (Bs : Nat) (v : Value), Value.pointer (some ⟨W.heap.size + 1, 0, none⟩) = .pointer (some ⟨Bs, 0, none⟩) ∧ W.heap.size < Bs ∧ Bx2 ((w7.setCell ⟨W.heap.size + 1, 0, none⟩ (.bool dr)).setCell ⟨W.heap.size + 1, 1, none⟩ (.slice a7 cl.length c7)) Bs 61 (.bool dr) v ∧ Hid (Own W.heap.size ((w7.setCell ⟨W.heap.size + 1, 0, none⟩ (.bool dr)).setCell ⟨W.heap.size + 1, 1, none⟩ (.slice a7 cl.length c7)) v cl) ∧ Below (W.heap.size + 1) (W.alloc (.cells #[.bool false, .slice none 0 0] 61)) ((w7.setCell ⟨W.heap.size + 1, 0, none⟩ (.bool dr)).setCell ⟨W.heap.size + 1, 1, none⟩ (.slice a7 cl.length c7)) := by
  have hs : W.heap.size + 2 ≤ w7.heap.size := by have := gr7.size; simpa using this
  have hb : Below (W.heap.size + 1) (W.alloc (.cells #[.bool false, .slice none 0 0] 61)) w7 := ⟨gr7.os, gr7.tape, gr7.output, by simp; omega, fun k hk => by
    rw [gr7.block k (by simp; omega) (by simp)]
    exact Below.heap_alloc _ _ _ (by simpa using hk)⟩
  rw [Nat.zero_add, List.nil_append] at own7
  have o7 : Own W.heap.size w7 (.slice a7 cl.length c7) cl := own7
  have b1 := bx7.set0 (.bool dr)
  have o8 : Own W.heap.size (w7.setCell ⟨W.heap.size + 1, 0, none⟩ (.bool dr)) (.slice a7 cl.length c7) cl := World.ownsRow.kept o7 (grown_set w7 ⟨W.heap.size + 1, 0, none⟩ _) (.inr (bx7.not_row (by decide) o7).symm)
  have o9 : Own W.heap.size ((w7.setCell ⟨W.heap.size + 1, 0, none⟩ (.bool dr)).setCell ⟨W.heap.size + 1, 1, none⟩ (.slice a7 cl.length c7)) (.slice a7 cl.length c7) cl := World.ownsRow.kept o8 (grown_set _ ⟨W.heap.size + 1, 1, none⟩ _) (.inr (b1.not_row (by decide) o8).symm)
  exact ⟨_, _, rfl, by omega, b1.set1 _, o9, (hb.setCell (p := ⟨W.heap.size + 1, 0, none⟩) (Nat.le_refl _) _).setCell (p := ⟨W.heap.size + 1, 1, none⟩) (Nat.le_refl _) _⟩

set_option maxRecDepth 100000 in
set_option maxHeartbeats 3200000 in
theorem end0_any (B D : Nat) (gv : Value) (W : World) (op dr : Bool) (cl : List Int) (cv : Value) (h : Rx B D gv W ⟨op, dr, cl⟩ cv) (hB : B ≤ W.heap.size) (hl : cl.length * 8 ≤ 140737488351232) :
    Calls Tryd.prog 65 #[.pointer (some ⟨D, 0, none⟩)] W fun e W' => ∃ v cv', e = .returned (.agg #[.bool dr, v]) ∧ Own W.heap.size W' v cl ∧ Rx B D gv W' ⟨false, false, []⟩ cv' ∧ cv'.ownBlock = cv.ownBlock ∧ Mq W (fun k => k = D) W' (fun k => k = D) := by
  have hbx : Br4 W D gv (.bool op) (.bool dr) cv := h.box
  have ho : Own B W cv cl := h.own
  have hD := hbx.lt
  have HX : Hid (Br4 W D gv (.bool op) (.bool dr) cv) := hbx
  have HO : Hid (Own B W cv cl) := ho
  obtain ⟨i0, hi, hz0, hz1, hz2⟩ := info_parts Tryd.info3
  have hB2 := hbx.below (below_box W (.cells #[.bool false, .slice none 0 0] 61))
  obtain ⟨_, _, c2, c3⟩ := hB2.c
  clear hB2 hbx h
  rcases own_cut9 ho with ⟨rfl, rfl⟩ | ⟨g, cap, rfl, hcm, hlc, hcut⟩
  · have HCut : Hid (Own B W (.slice none 0 0) []) := ho
    have hrun : ∀ ty w, (Builtin.append_ #[58, 58] ty #[.slice none 0 0, .slice none 0 0]).run Tryd.prog w = .ok (.slice none 0 0) w := fun ty w => run_append_owned_none (P := Tryd.prog) w 0 58 ty 3 i0 1 Tryd.underlying58 hi _ _ _ (World.ownsRow_nil w 0 3 1)
    clear ho
    go_enter Tryd.func65, Tryd.ntmps65
    go_upto_region 1 with fail
    go_cut [3] from 4 to 13 (fun t wx => ∃ (Bs : Nat) (v : Value), t = .pointer (some ⟨Bs, 0, none⟩) ∧ W.heap.size < Bs ∧ Bx2 wx Bs 61 (.bool dr) v ∧ Hid (Own W.heap.size wx v ([] : List Int)) ∧ Below (W.heap.size + 1) (W.alloc (.cells #[.bool false, .slice none 0 0] 61)) wx)
    case first =>
      go_region_law fail
      all_goals
        go_wp2_with fail
        go_meet
        exact fin9n
    case rest =>
    obtain ⟨Bs, v, rfl, hBs, hbx, HOv, hbel⟩ := hcut
    obtain ⟨av, cv', hv⟩ := own_form HOv.out
    simp only [List.length_nil] at hv
    subst hv
    generalize wc = w2 at *
    have hrb : Bx2 w2 W.heap.size 61 (.bool false) (.slice none 0 0) := (hbel.block W.heap.size (by omega)).trans (Bx2.new W 61 (.bool false) (.slice none 0 0))
    have hx2 : Br4 w2 D gv (.bool op) (.bool dr) (.slice none 0 0) := (hbel.block D (by omega)).trans (HX.out.below (below_box W _))
    obtain ⟨_, d1, d2, d3⟩ := hx2.c
    obtain ⟨f1, f2, f3⟩ := hx2.f
    have HBX2 : Hid (Bx2 w2 Bs 61 (.bool dr) (.slice av 0 cv')) := hbx
    have HRB : Hid (Bx2 w2 W.heap.size 61 (.bool false) (.slice none 0 0)) := hrb
    have HX2 : Hid (Br4 w2 D gv (.bool op) (.bool dr) (.slice none 0 0)) := hx2
    have hne1 : D ≠ Bs := by omega
    have hne2 : D ≠ W.heap.size := by omega
    have e0 := hbx.c0
    have e1 := hbx.c1
    have r0 := hrb.c0
    have r1 := hrb.c1
    have s0 := hrb.f0
    have s1 := hrb.f1
    clear hbx hrb hx2 c2 c3
    go_upto_region 2 with fail
    go_region_with (fail)
    all_goals
      go_wp2_with fail
      have hne0 : (D ≠ W.heap.size) := hne2
      have q := fin9d (cv := .slice none 0 0) (W3 := (((((w2.setCell ⟨D, 1, none⟩ (.bool false)).setCell ⟨D, 2, none⟩ (.bool false)).setCell ⟨D, 3, none⟩ (.slice none 0 0)).setCell ⟨W.heap.size, 0, none⟩ (.bool dr)).setCell ⟨W.heap.size, 1, none⟩ (.slice av 0 cv')).drew) hD hbel HX2.out HRB.out HOv.out HCut.out rfl rfl rfl rfl rfl
      have q2 := (fin9c (W3 := (((((w2.setCell ⟨D, 1, none⟩ (.bool false)).setCell ⟨D, 2, none⟩ (.bool false)).setCell ⟨D, 3, none⟩ (.slice none 0 0)).setCell ⟨W.heap.size, 0, none⟩ (.bool dr)).setCell ⟨W.heap.size, 1, none⟩ (.slice av 0 cv')).drew) (v := .slice av 0 cv') (dr := dr) (cut := .slice none 0 0) HX2.out HRB.out hne2 rfl).1
      refine bodyPost_ret (ret_stp rfl rfl q2) rfl ?_
      exact ⟨_, _, rfl, q⟩
  · have HCut : Hid (Own B W (.slice (some ⟨g, 0, none⟩) 0 cap) []) := hcut
    have hgl : g < W.heap.size := (ho.lt g rfl).2
    have HNw : Hid (∀ W', Below W.heap.size W W' → ∀ j u, (cl.map (Value.int .i64))[j]? = some u → W'.cell? ((⟨g, 0, none⟩ : Addr).add j) = some u) := fun W' hb j u hu => by
      have := World.ownsRow.cells HO.out (g := g) rfl j u hu
      rw [Addr.add_lit] at this ⊢
      exact (hb.cell (p := ⟨g, 0 + j, none⟩) hgl).trans this
    have HBX : Hid (∀ w7, ((W.alloc (.cells #[.bool false, .slice none 0 0] 61)).drew.alloc (.cells #[.bool false, .slice none 0 0] 61)).grownBy w7 none → Bx2 w7 (W.heap.size + 1) 61 (.bool false) (.slice none 0 0)) := fun w7 hg => by
      have h1 := Bx2.new (W.alloc (.cells #[.bool false, .slice none 0 0] 61)).drew 61 (.bool false) (.slice none 0 0)
      have h2 : (W.alloc (.cells #[.bool false, .slice none 0 0] 61)).drew.heap.size = W.heap.size + 1 := by simp
      rw [h2] at h1
      exact h1.kept hg (by simp)
    have HDx : Hid (∀ Wx w7, Below W.heap.size W Wx → Wx.grownBy w7 none → w7.cell? ⟨D, 2, none⟩ = some (.bool dr) ∧ D < w7.heap.size ∧ Below W.heap.size W w7) := fun Wx w7 h1 h2 => by
      have h3 : Below W.heap.size W w7 := h1.grown h2 h1.size (fun k hk => by cases hk)
      exact ⟨(HX.out.below h3).c.2.2.1, (HX.out.below h3).lt, h3⟩
    clear hcut ho
    go_enter Tryd.func65, Tryd.ntmps65
    go_upto_region 1 with fail
    go_cut [3] from 4 to 13 (fun t wx => ∃ (Bs : Nat) (v : Value), t = .pointer (some ⟨Bs, 0, none⟩) ∧ W.heap.size < Bs ∧ Bx2 wx Bs 61 (.bool dr) v ∧ Hid (Own W.heap.size wx v cl) ∧ Below (W.heap.size + 1) (W.alloc (.cells #[.bool false, .slice none 0 0] 61)) wx)
    case first =>
      go_region_law (first
        | (refine step_append_own9 rfl (.const (.slice none 0 0)) (.tmp 11) 58 rfl W.heap.size 3 i0 (.int .i64 0) 1 8 Tryd.underlying58 hi hz0 hz1 hz2 rfl (by decide) (.slice none 0 0) 0 [] rfl (World.ownsRow_nil _ _ _ _) ⟨g, 0, none⟩ cl.length cap (cl.map (Value.int .i64)) (by simp [Act.eval, Act.put]) (by simp) (HNw.out _ (by first | exact (below_box _ _).drew | exact (((below_box _ _).drew).alloc (by simp) _))) (ints_oneCell' cl) (by unfold maxLen; omega) (by omega) (by simp; try omega) ?_; intro v7 w7 own7 gr7; obtain ⟨a7, c7, hv7⟩ := own_form9 own7; subst hv7; obtain ⟨d2, hD7, hW7⟩ := HDx.out _ w7 (by first | exact (below_box _ _).drew | exact (((below_box _ _).drew).alloc (by simp) _)) gr7; first | (have bx7 := HBX.out w7 gr7; have p0 := bx7.c0; have p1 := bx7.c1; have q0 := bx7.f0; have q1 := bx7.f1) | skip))
      all_goals
        go_wp2_with fail
        go_meet
        first
          | exact fin9a own7 gr7
          | exact fin9b own7 gr7 bx7
    case rest =>
    obtain ⟨Bs, v, rfl, hBs, hbx, HOv, hbel⟩ := hcut
    obtain ⟨av, cv', hv⟩ := own_form HOv.out
    subst hv
    generalize wc = w2 at *
    have hrb : Bx2 w2 W.heap.size 61 (.bool false) (.slice none 0 0) := (hbel.block W.heap.size (by omega)).trans (Bx2.new W 61 (.bool false) (.slice none 0 0))
    have hx2 : Br4 w2 D gv (.bool op) (.bool dr) (.slice (some ⟨g, 0, none⟩) cl.length cap) := (hbel.block D (by omega)).trans (HX.out.below (below_box W _))
    obtain ⟨_, d1, d2, d3⟩ := hx2.c
    obtain ⟨f1, f2, f3⟩ := hx2.f
    have HBX2 : Hid (Bx2 w2 Bs 61 (.bool dr) (.slice av cl.length cv')) := hbx
    have HRB : Hid (Bx2 w2 W.heap.size 61 (.bool false) (.slice none 0 0)) := hrb
    have HX2 : Hid (Br4 w2 D gv (.bool op) (.bool dr) (.slice (some ⟨g, 0, none⟩) cl.length cap)) := hx2
    have hne1 : D ≠ Bs := by omega
    have hne2 : D ≠ W.heap.size := by omega
    have e0 := hbx.c0
    have e1 := hbx.c1
    have r0 := hrb.c0
    have r1 := hrb.c1
    have s0 := hrb.f0
    have s1 := hrb.f1
    clear hbx hrb hx2 c2 c3 HNw HBX HDx
    go_upto_region 2 with fail
    go_region_with (fail)
    all_goals
      go_wp2_with fail
      refine bodyPost_ret (ret_stp rfl rfl (fin9c HX2.out HRB.out hne2 rfl).1) rfl ?_
      exact ⟨_, _, rfl, fin9d hD hbel HX2.out HRB.out HOv.out HCut.out rfl rfl rfl rfl rfl⟩

theorem end_any (B D : Nat) (gv : Value) (W : World) (st : RSt) (cv : Value) (h : Rx B D gv W st cv) (hB : B ≤ W.heap.size) (hl : st.cl.length * 8 ≤ 140737488351232) :
    Calls Tryd.prog 65 #[.pointer (some ⟨D, 0, none⟩)] W fun e W' => ∃ v cv', e = .returned (.agg #[.bool st.dr, v]) ∧ Own W.heap.size W' v st.cl ∧ Rx B D gv W' ⟨false, false, []⟩ cv' ∧ cv'.ownBlock = cv.ownBlock ∧ Mq W (fun k => k = D) W' (fun k => k = D) := by
  obtain ⟨op, dr, cl⟩ := st
  exact end0_any B D gv W op dr cl cv h hB hl

end Go.Proofs.YtilcokpaeapmeaaDoor
set_option linter.unusedSimpArgs false
set_option linter.unusedVariables false
namespace Go.Proofs.YtilcokpaeapmeaaDoor
open Go Go.RowKit Go.Lib Go.Sort

/-- the reader's own blocks -/
def rdQ (D : Nat) (cv : Value) : Nat → Prop := fun k => k = D ∨ some k = cv.ownBlock
theorem mq_wide {W W' : World} {D : Nat} {cv cv' : Value} (h : Mq W (fun k => k = D) W' (fun k => k = D)) (hc : cv'.ownBlock = cv.ownBlock) : Mq W (rdQ D cv) W' (rdQ D cv') :=
  ⟨h.os, h.tape, h.output, h.size, fun k hk hq => h.block k hk (fun e => hq (.inl e)), fun k hk => .inl (by unfold rdQ at hk ⊢; rwa [hc] at hk)⟩
theorem eq100 (wd : List UInt8) : ((⟨wd.toArray⟩ : ByteArray).toList == [100]) = (wd == [100]) := by rw [ByteArray.toList_eq]

theorem fin9e {B D : Nat} {gv cv v7 : Value} {w1 w7 : World} {op dr : Bool} {cl : List Int} {z : Int} {o : Obj} (h : Rx B D gv w1 ⟨op, dr, cl⟩ cv) (own7 : w7.ownsRow B 3 1 v7 (cl.length + 1) (cl.map (Value.int .i64) ++ [.int .i64 z])) (ap7 : Ap ((w1.setCell ⟨D, 1, none⟩ (.bool true)).alloc o) cv w7 v7) :
    Br4 w7 D gv (.bool true) (.bool dr) cv ∧ Rx B D gv (w7.setCell ⟨D, 3, none⟩ v7) ⟨true, dr, cl ++ [z]⟩ v7 ∧ Mq w1 (rdQ D cv) (w7.setCell ⟨D, 3, none⟩ v7) (rdQ D v7) := by
  have hD := h.box.lt
  have hsz : ((w1.setCell ⟨D, 1, none⟩ (.bool true)).alloc o).heap.size = w1.heap.size + 1 := by simp
  have hne := h.box.not_row h.own
  have b0 : Br4 ((w1.setCell ⟨D, 1, none⟩ (.bool true)).alloc o) D gv (.bool true) (.bool dr) cv := (Below.heap_alloc _ _ _ (by simpa using hD)).trans (h.box.set1 (.bool true))
  have b7 : Br4 w7 D gv (.bool true) (.bool dr) cv := (ap7.grown.block D (by omega) hne).trans b0
  have o7 : Own B w7 v7 (cl ++ [z]) := own_one_more own7
  refine ⟨b7, ⟨b7.set3 v7, own_keep9 o7 fun k hk => Below.heap_setCell _ ⟨D, 3, none⟩ _ k (fun e => b7.not_row o7 (by have e' : k = D := e; rw [← e']; exact hk))⟩, ⟨?_, ?_, ?_, ?_, fun k hk hq => ?_, fun k hk => ?_⟩⟩
  · exact ap7.grown.os
  · exact ap7.grown.tape
  · exact ap7.grown.output
  · have := ap7.grown.size; rw [World.size_setCell]; omega
  · have h1 : k ≠ D := fun e => hq (.inl e)
    have h2 : some k ≠ cv.ownBlock := fun e => hq (.inr e)
    rw [Below.heap_setCell _ ⟨D, 3, none⟩ _ k h1, ap7.grown.block k (by omega) h2, Below.heap_alloc _ _ _ (by simpa using hk)]
    exact Below.heap_setCell _ ⟨D, 1, none⟩ _ k h1
  · rcases hk with rfl | hk
    · exact .inl (.inl rfl)
    · rcases ap7.new with e | e
      · exact .inl (.inr (by rw [hk, e]))
      · have := e k hk.symm; exact .inr (by omega)

set_option maxRecDepth 100000 in
set_option maxHeartbeats 3200000 in
theorem takeF_any (B D A : Nat) (W : World) (op dr : Bool) (cl : List Int) (cv : Value) (wd : List UInt8)
    (h : Rx B D (.func (.func 39) #[] #[.pointer (some ⟨A, 0, none⟩)]) W ⟨op, dr, cl⟩ cv) (hB : B ≤ W.heap.size) (hBD : D < B) (he : Env W) (hl : (cl.length + 1) * 8 ≤ 140737488351232) (hw : wd.length ≤ 1099511627776) (R : Bool → World → Prop)
    (hno : takeW ⟨op, dr, cl⟩ wd = none → ∀ W', Below W.heap.size W W' → R false W')
    (hgo : ∀ st', takeW ⟨op, dr, cl⟩ wd = some (st', []) → ∀ cv' W', Rx B D (.func (.func 39) #[] #[.pointer (some ⟨A, 0, none⟩)]) W' st' cv' → Mq W (rdQ D cv) W' (rdQ D cv') → R true W')
    (hgv : ∀ st' x, takeW ⟨op, dr, cl⟩ wd = some (st', [x]) → ∀ v cv' W', Rx B D (.func (.func 39) #[] #[.pointer (some ⟨A, 0, none⟩)]) W' st' cv' → Own W.heap.size W' v x.2 → cv'.ownBlock = cv.ownBlock → Mq W (rdQ D cv) W' (rdQ D cv') →
      Calls Tryd.prog 39 #[.agg #[.bool x.1, v], .pointer (some ⟨A, 0, none⟩)] W' fun e W'' => ∃ b : Bool, e = .returned (.bool b) ∧ R b W'' ∧ W''.cell? ⟨D, 0, none⟩ = W'.cell? ⟨D, 0, none⟩) :
    Calls Tryd.prog 53 #[.pointer (some ⟨D, 0, none⟩), .string ⟨wd.toArray⟩] W fun e W' => ∃ b : Bool, e = .returned (.bool b) ∧ R b W' := by
  have hD := h.box.lt
  have HR : Hid (Rx B D (.func (.func 39) #[] #[.pointer (some ⟨A, 0, none⟩)]) W ⟨op, dr, cl⟩ cv) := h
  have HNO : Hid (takeW ⟨op, dr, cl⟩ wd = none → ∀ W', Below W.heap.size W W' → R false W') := hno
  have HGO : Hid (∀ st', takeW ⟨op, dr, cl⟩ wd = some (st', []) → ∀ cv' W', Rx B D (.func (.func 39) #[] #[.pointer (some ⟨A, 0, none⟩)]) W' st' cv' → Mq W (rdQ D cv) W' (rdQ D cv') → R true W') := hgo
  have HGV : Hid (∀ st' x, takeW ⟨op, dr, cl⟩ wd = some (st', [x]) → ∀ v cv' W', Rx B D (.func (.func 39) #[] #[.pointer (some ⟨A, 0, none⟩)]) W' st' cv' → Own W.heap.size W' v x.2 → cv'.ownBlock = cv.ownBlock → Mq W (rdQ D cv) W' (rdQ D cv') →
      Calls Tryd.prog 39 #[.agg #[.bool x.1, v], .pointer (some ⟨A, 0, none⟩)] W' fun e W'' => ∃ b : Bool, e = .returned (.bool b) ∧ R b W'' ∧ W''.cell? ⟨D, 0, none⟩ = W'.cell? ⟨D, 0, none⟩) := hgv
  have HEq := eq100 wd
  obtain ⟨c0, c1, c2, c3⟩ := h.box.c
  obtain ⟨f1, f2, f3⟩ := h.box.f
  dsimp only at c1 c2
  have HEnv : Hid (Env W) := he
  have HTW : Hid (takeW ⟨op, dr, cl⟩ wd = if wd == [100] && !op then some (⟨true, true, cl⟩, []) else match numD wd with | none => none | some z => if z = 0 then some (⟨false, false, []⟩, [(dr, cl)]) else some (⟨true, dr, cl ++ [z]⟩, [])) := rfl
  clear hno hgo hgv h he
  cases hd : (wd == [100] && !op)
  case true =>
    simp only [Bool.and_eq_true, Bool.not_eq_true'] at hd
    obtain ⟨hd1, rfl⟩ := hd
    rw [hd1] at HEq
    have HT : Hid (takeW ⟨false, dr, cl⟩ wd = some (⟨true, true, cl⟩, [])) := by show _ = _; rw [HTW.out, hd1]; rfl
    have hfin : Hid (R true ((W.setCell ⟨D, 1, none⟩ (.bool true)).setCell ⟨D, 2, none⟩ (.bool true))) := by
      refine HGO.out _ HT.out cv _ ⟨((HR.out.box.set1 (.bool true)).set2 (.bool true)), own_keep9 HR.out.own fun k hk => ?_⟩ ?_
      · have hne : k ≠ D := fun e => HR.out.box.not_row HR.out.own (by rw [← e]; exact hk)
        exact (Below.heap_setCell _ ⟨D, 2, none⟩ _ k hne).trans (Below.heap_setCell _ ⟨D, 1, none⟩ _ k hne)
      · exact mq_wide (mq_set (mq_set (Mq.refl W _) hD 1 _) hD 2 _) rfl
    clear HTW HNO HGO HGV HT
    go_enter Tryd.func53, Tryd.ntmps53
    go_wp2
    go_ret
    exact ⟨true, rfl, hfin.out⟩
  case false =>
    have HTW2 : Hid (takeW ⟨op, dr, cl⟩ wd = match numD wd with | none => none | some z => if z = 0 then some (⟨false, false, []⟩, [(dr, cl)]) else some (⟨true, dr, cl ++ [z]⟩, [])) := by show _ = _; rw [HTW.out, hd]; rfl
    have HNum : Hid (Calls Tryd.prog 64 #[.string ⟨wd.toArray⟩] W fun e w' => ∃ n : Int, e = .returned (.tuple #[.int .i64 n, .bool (numD wd).isSome]) ∧ (∀ z, numD wd = some z → n = z) ∧ Below W.heap.size W w') := number9_any ⟨wd.toArray⟩ W (by show wd.length ≤ _; omega) HEnv.out
    have hop2 : Hid ((wd == [100]) = true → op = true) := fun h1 => by rw [h1] at hd; simpa using hd
    clear HTW hd
    cases hn : numD wd with
    | none =>
      rw [hn] at HTW2 HNum
      have HN0 : Hid (∀ W', Below W.heap.size W W' → R false W') := HNO.out HTW2.out
      clear HGO HGV HNO HTW2 hn
      cases hq : (wd == [100])
      all_goals
        rw [hq] at HEq
        first | (have hop : op = true := hop2.out hq; subst hop) | skip
        go_enter Tryd.func53, Tryd.ntmps53
        go_wp2_with fail
        all_goals
          refine HNum.out.mono ?_
          rintro e w1 ⟨n, rfl, -, bel1⟩
          go_wp2
          go_ret
          exact ⟨false, rfl, HN0.out _ bel1⟩
    | some z =>
      obtain ⟨hnw, hok⟩ := numD_some hn
      have hzr := okN_range hok
      rw [hn] at HTW2 HNum
      have HNum2 : Hid (Calls Tryd.prog 64 #[.string ⟨wd.toArray⟩] W fun e w' => e = .returned (.tuple #[.int .i64 z, .bool true]) ∧ Below W.heap.size W w') := HNum.out.mono fun e w' ⟨n, h1, h2, h3⟩ => ⟨by rw [h1, h2 z rfl]; rfl, h3⟩
      clear HNO HNum hn hnw hok
      by_cases hz : z = 0
      · subst hz
        have HT : Hid (takeW ⟨op, dr, cl⟩ wd = some (⟨false, false, []⟩, [(dr, cl)])) := HTW2.out
        have HGV2 := fun v cv' W' => HGV.out _ _ HT.out v cv' W'
        have HG : Hid (∀ v cv' W', Rx B D (.func (.func 39) #[] #[.pointer (some ⟨A, 0, none⟩)]) W' ⟨false, false, []⟩ cv' → Own W.heap.size W' v cl → cv'.ownBlock = cv.ownBlock → Mq W (rdQ D cv) W' (rdQ D cv') →
            Calls Tryd.prog 39 #[.agg #[.bool dr, v], .pointer (some ⟨A, 0, none⟩)] W' fun e W'' => ∃ b : Bool, e = .returned (.bool b) ∧ R b W'' ∧ W''.cell? ⟨D, 0, none⟩ = W'.cell? ⟨D, 0, none⟩) := HGV2
        clear HGO HGV HGV2 HTW2 HT
        cases hq : (wd == [100])
        all_goals
          rw [hq] at HEq
          first | (have hop : op = true := hop2.out hq; subst hop) | skip
          go_enter Tryd.func53, Tryd.ntmps53
          go_wp2_with fail
          refine HNum2.out.mono ?_
          rintro e w1 ⟨rfl, bel1⟩
          have HR1 : Hid (Rx B D (.func (.func 39) #[] #[.pointer (some ⟨A, 0, none⟩)]) w1 ⟨_, dr, cl⟩ cv) := HR.out.below bel1
          have hs1 := bel1.size
          have d0 := HR1.out.box.c.1
          have HEn : Hid (∀ Wx, Below w1.heap.size w1 Wx → Calls Tryd.prog 65 #[.pointer (some ⟨D, 0, none⟩)] Wx fun e W' => ∃ v cv', e = .returned (.agg #[.bool dr, v]) ∧ Own Wx.heap.size W' v cl ∧ Rx B D (.func (.func 39) #[] #[.pointer (some ⟨A, 0, none⟩)]) W' ⟨false, false, []⟩ cv' ∧ cv'.ownBlock = cv.ownBlock ∧ Mq Wx (fun k => k = D) W' (fun k => k = D)) := fun Wx hb => end_any B D _ Wx _ cv (HR1.out.below hb) (by have := hb.size; omega) (by show cl.length * 8 ≤ _; omega)
          have HD0 : Hid (∀ Wx, Below w1.heap.size w1 Wx → Wx.cell? ⟨D, 0, none⟩ = some (.func (.func 39) #[] #[.pointer (some ⟨A, 0, none⟩)])) := fun Wx hb => (HR1.out.below hb).box.c.1
          clear HNum2
          go_upto_region 8 with fail
          go_region_held (fun W' => W'.cell? ⟨D, 0, none⟩ = some (.func (.func 39) #[] #[.pointer (some ⟨A, 0, none⟩)])) (first | exact HD0.out _ (Below.refl _ _).drew | exact q3 | exact q2) (first
            | (go_at_call 65; refine (HEn.out _ (Below.refl _ _).drew).mono ?_; rintro e w2 ⟨v, cv', rfl, hov, hrx, hcv, hmq⟩; have q2 := hrx.box.c.1; have HF2 : Hid (Calls Tryd.prog 39 #[.agg #[.bool dr, v], .pointer (some ⟨A, 0, none⟩)] w2 fun e W'' => ∃ b : Bool, e = .returned (.bool b) ∧ R b W'' ∧ W''.cell? ⟨D, 0, none⟩ = w2.cell? ⟨D, 0, none⟩) := HG.out v cv' w2 hrx (hov.mono (by simp; omega)) hcv ((Mq.below bel1 _).trans ((Mq.below (Below.refl _ _).drew _).trans (mq_wide hmq hcv))); obtain ⟨av, ac, hv⟩ := own_form hov; subst hv)
            | (go_at_call 39; refine HF2.out.mono ?_; rintro e w3 ⟨b, rfl, hb, q3'⟩; have q3 := q3'.trans q2; clear q3'))
          all_goals
            go_wp2_with fail
            go_ret
            exact ⟨_, rfl, hb⟩
      · have HT : Hid (takeW ⟨op, dr, cl⟩ wd = some (⟨true, dr, cl ++ [z]⟩, [])) := by show _ = _; rw [HTW2.out]; simp [hz]
        have HG : Hid (∀ cv' W', Rx B D (.func (.func 39) #[] #[.pointer (some ⟨A, 0, none⟩)]) W' ⟨true, dr, cl ++ [z]⟩ cv' → Mq W (rdQ D cv) W' (rdQ D cv') → R true W') := fun cv' W' => HGO.out _ HT.out cv' W'
        have hz0' : (z == 0) = false := by simpa using hz
        obtain ⟨i0, hi, hz0, hz1, hz2⟩ := info_parts Tryd.info3
        clear HGO HGV HTW2 HT
        cases hq : (wd == [100])
        all_goals
          rw [hq] at HEq
          first | (have hop : op = true := hop2.out hq; subst hop) | skip
          go_enter Tryd.func53, Tryd.ntmps53
          go_wp2_with fail
          refine HNum2.out.mono ?_
          rintro e w1 ⟨rfl, bel1⟩
          have HR1 : Hid (Rx B D (.func (.func 39) #[] #[.pointer (some ⟨A, 0, none⟩)]) w1 ⟨_, dr, cl⟩ cv) := HR.out.below bel1
          have hs1 := bel1.size
          obtain ⟨_, d1, d2, d3⟩ := HR1.out.box.c
          obtain ⟨g1, g2, g3⟩ := HR1.out.box.f
          obtain ⟨ca, cc, hcv⟩ := own_form HR.out.own
          have HOw : Hid (Own B ((w1.setCell ⟨D, 1, none⟩ (.bool true)).alloc (.cells #[.int .i64 z] 3)) cv cl) := World.ownsRow.alloc (own_keep9 HR1.out.own fun k hk => Below.heap_setCell _ ⟨D, 1, none⟩ _ k (fun e => HR1.out.box.not_row HR1.out.own (by have e' : k = D := e; rw [← e']; exact hk))) _
          have HNw : Hid (∀ j u, [Value.int .i64 z][j]? = some u → ((w1.setCell ⟨D, 1, none⟩ (.bool true)).alloc (.cells #[.int .i64 z] 3)).cell? ((⟨w1.heap.size, 0, none⟩ : Addr).add j) = some u) := by
            have := cell_one_new (w1.setCell ⟨D, 1, none⟩ (.bool true)) (.int .i64 z) 3
            rw [World.size_setCell] at this
            exact this
          subst hcv
          dsimp only at *
          clear HNum2
          go_wp2_with (at_builtin; refine wpList_append_apk rfl _ _ 58 rfl B 3 i0 (.int .i64 0) 1 8 Tryd.underlying58 hi hz0 hz1 hz2 rfl (by decide) _ cl.length (cl.map (Value.int .i64)) rfl HOw.out _ 1 1 [.int .i64 z] rfl rfl HNw.out (by simp [Value.oneCell']) (by unfold maxLen; omega) (by omega) (by simp; omega) ?_; intro v7 w7 own7 ap7; obtain ⟨a7, c7, hv7⟩ := own_form9 own7; subst hv7; have H7 := fin9e HR1.out own7 ap7; have p3 := H7.1.c.2.2.2; have q3 := H7.1.f.2.2)
          go_ret
          exact ⟨true, rfl, HG.out _ _ H7.2.1 ((Mq.below bel1 _).trans H7.2.2)⟩

end Go.Proofs.YtilcokpaeapmeaaDoor
set_option linter.unusedSimpArgs false
set_option linter.unusedVariables false
namespace Go.Proofs.YtilcokpaeapmeaaDoor
open Go Go.RowKit

theorem row_keepP {B e s n : Nat} {W W' : World} {v : Value} {xs : List Value} (h : W.ownsRow B e s v n xs) (hk : ∀ k, some k = v.ownBlock → W'.heap[k]? = W.heap[k]?) : W'.ownsRow B e s v n xs := by
  refine ⟨h.1, ?_⟩
  rcases h.2 with hn | ⟨g, cap, cur, hv, hg, hh, r⟩
  · exact .inl hn
  · exact .inr ⟨g, cap, cur, hv, hg, (hk g (by rw [hv]; rfl)).trans hh, r⟩
/-- rows of unlike types lie in unlike blocks -/
theorem rows_notP {B B' e e' s s' n n' : Nat} {W : World} {v u : Value} {xs ys : List Value} (hne : e ≠ e') (h : W.ownsRow B e s v n xs) (hu : W.ownsRow B' e' s' u n' ys) {k : Nat} (h1 : some k = v.ownBlock) (h2 : some k = u.ownBlock) : False := by
  rcases h.2 with ⟨rfl, _⟩ | ⟨g, cap, cur, rfl, _, hgb, _⟩
  · cases h1
  · rcases hu.2 with ⟨rfl, _⟩ | ⟨g', cap', cur', rfl, _, hgb', _⟩
    · cases h2
    · have e1 : k = g := by simpa [Value.ownBlock] using h1
      have e2 : k = g' := by simpa [Value.ownBlock] using h2
      subst e1; subst e2
      rw [hgb] at hgb'
      injection hgb' with q
      injection q with q1 q2
      exact hne q2
/-- the blocks that a step may turn -/
def paQ (E : Nat) (cv : Value) : Nat → Prop := fun k => k = E ∨ some k = cv.ownBlock
/-- the steps so far, the step that is being read in its box, rows of texts -/
structure Pz (w : World) (E : Nat) (T : List (Value × List (List UInt8))) (wr : World) (u : Value) (L : List SV) (d : Bool) (cv : Value) (cl : List Int) : Prop where
  oz : OwnZ w.heap.size wr u L
  bx : Bx2 wr E 61 (.bool d) cv
  own : Own w.heap.size wr cv cl
  ap : ∀ x ∈ L, x.2.1.ownBlock = none ∨ x.2.1.ownBlock ≠ cv.ownBlock
  bel : Below w.heap.size w wr
  ge : w.heap.size ≤ E
  eu : some E ≠ u.ownBlock
  tx : ∀ t ∈ T, OwnL w.heap.size wr t.1 t.2
section
variable {w : World} {E : Nat} {T : List (Value × List (List UInt8))} {wr w1 : World} {u : Value} {L : List SV} {d : Bool} {cv : Value} {cl : List Int}
/-- a step that turns the box and the literals' block alone -/
theorem Pz.kept {d' : Bool} {cv' : Value} {cl' : List Int} (h : Pz w E T wr u L d cv cl) (mk : Mq wr (paQ E cv) w1 (paQ E cv')) (b1 : Bx2 w1 E 61 (.bool d') cv') (o1 : Own w.heap.size w1 cv' cl') : Pz w E T w1 u L d' cv' cl' := by
  have hrow : ∀ k, some k = u.ownBlock → w1.heap[k]? = wr.heap[k]? := fun k hk => mk.block k (World.ownsRow.lt h.oz.row k hk.symm).2 (fun hq => by
    rcases hq with rfl | hq
    · exact h.eu hk
    · exact rows_notP (by decide) h.own h.oz.row hq hk)
  have hlist : ∀ x ∈ L, ∀ k, some k = x.2.1.ownBlock → ¬ paQ E cv k := fun x hx k hk hq => by
    rcases hq with rfl | hq
    · exact h.bx.not_row (by decide) (h.oz.own x hx) hk
    · rcases h.ap x hx with e | e
      · rw [e] at hk; cases hk
      · exact e (by rw [← hk, ← hq])
  refine ⟨⟨row_keepP h.oz.row hrow, fun x hx => row_keepP (h.oz.own x hx) fun k hk => mk.block k (World.ownsRow.lt (h.oz.own x hx) k hk.symm).2 (hlist x hx k hk), h.oz.ap⟩, b1, o1, fun x hx => ?_, mk.low h.bel h.bel.size (fun k hk => ?_), h.ge, h.eu, fun t ht => row_keepP (h.tx t ht) fun k hk => mk.block k (World.ownsRow.lt (h.tx t ht) k hk.symm).2 (fun hq => ?_)⟩
  · by_cases hx0 : x.2.1.ownBlock = none
    · exact .inl hx0
    · refine .inr fun e => ?_
      obtain ⟨k, hk⟩ := Option.ne_none_iff_exists'.1 hx0
      rcases mk.new k (.inr (by rw [← e, hk])) with hq | hq
      · exact hlist x hx k hk.symm hq
      · have := (World.ownsRow.lt (h.oz.own x hx) k hk).2; omega
  · rcases hk with rfl | hk
    · exact h.ge
    · exact (World.ownsRow.lt h.own k hk.symm).1
  · rcases hq with rfl | hq
    · exact h.bx.not_row (by decide) (h.tx t ht) hk
    · exact rows_notP (by decide) h.own (h.tx t ht) hq hk
theorem Pz.below (h : Pz w E T wr u L d cv cl) (hb : Below wr.heap.size wr w1) : Pz w E T w1 u L d cv cl := h.kept (Mq.below hb _) (h.bx.below hb) (h.own.below hb)
theorem mqP_set {o : Nat} {v : Value} : Mq wr (paQ E cv) (wr.setCell ⟨E, o, none⟩ v) (paQ E cv) :=
  ⟨rfl, rfl, rfl, by rw [World.size_setCell]; exact Nat.le_refl _, fun k _ hk => Below.heap_setCell _ ⟨E, o, none⟩ _ k (fun e => hk (.inl e)), fun _ h => .inl h⟩
theorem Pz.drop (h : Pz w E T wr u L d cv cl) (d' : Bool) : Pz w E T (wr.setCell ⟨E, 0, none⟩ (.bool d')) u L d' cv cl :=
  h.kept mqP_set (h.bx.set0 _) (row_keepP h.own fun k hk => Below.heap_setCell _ ⟨E, 0, none⟩ _ k (fun e => h.bx.not_row (by decide) h.own (by have e' : k = E := e; rw [← e']; exact hk)))
/-- one literal more: behind the append, behind the store -/
theorem Pz.lit {v7 : Value} {z : Int} {o : Obj} {w7 : World} (h : Pz w E T wr u L d cv cl) (own7 : w7.ownsRow w.heap.size 3 1 v7 (cl.length + 1) (cl.map (Value.int .i64) ++ [.int .i64 z])) (ap7 : Ap (wr.alloc o) cv w7 v7) :
    Bx2 w7 E 61 (.bool d) cv ∧ Pz w E T (w7.setCell ⟨E, 1, none⟩ v7) u L d v7 (cl ++ [z]) := by
  have hE := h.bx.lt
  have hsz : (wr.alloc o).heap.size = wr.heap.size + 1 := by simp
  have hne := h.bx.not_row (by decide) h.own
  have b0 : Bx2 (wr.alloc o) E 61 (.bool d) cv := h.bx.below (below_box _ _)
  have b7 : Bx2 w7 E 61 (.bool d) cv := (ap7.grown.block E (by omega) hne).trans b0
  have o7 : Own w.heap.size w7 v7 (cl ++ [z]) := own_one_more own7
  refine ⟨b7, h.kept ⟨ap7.grown.os, ap7.grown.tape, ap7.grown.output, ?_, fun k hk hq => ?_, fun k hk => ?_⟩ (b7.set1 v7) (row_keepP o7 fun k hk => Below.heap_setCell _ ⟨E, 1, none⟩ _ k (fun e => b7.not_row (by decide) o7 (by have e' : k = E := e; rw [← e']; exact hk)))⟩
  · have := ap7.grown.size; rw [World.size_setCell]; omega
  · have h1 : k ≠ E := fun e => hq (.inl e)
    have h2 : some k ≠ cv.ownBlock := fun e => hq (.inr e)
    rw [Below.heap_setCell _ ⟨E, 1, none⟩ _ k h1, ap7.grown.block k (by omega) h2, Below.heap_alloc _ _ _ hk]
  · rcases hk with rfl | hk
    · exact .inl (.inl rfl)
    · rcases ap7.new with e | e
      · exact .inl (.inr (by rw [hk, e]))
      · have := e k hk.symm; exact .inr (by omega)
/-- the step is given: behind the append, behind the stores -/
theorem Pz.fin {u' : Value} {o : Obj} {w7 : World} (h : Pz w E T wr u L d cv cl) (own7 : w7.ownsRow w.heap.size 61 2 u' (L.length + 1) (svC L ++ [.bool d, cv])) (ap7 : Ap (wr.alloc o) u w7 u') :
    Bx2 w7 E 61 (.bool d) cv ∧ Pz w E T ((w7.setCell ⟨E, 0, none⟩ (.bool false)).setCell ⟨E, 1, none⟩ (.slice none 0 0)) u' (L ++ [(d, cv, cl)]) false (.slice none 0 0) [] := by
  have hE := h.bx.lt
  have hsz : (wr.alloc o).heap.size = wr.heap.size + 1 := by simp
  have b0 : Bx2 (wr.alloc o) E 61 (.bool d) cv := h.bx.below (below_box _ _)
  have b7 : Bx2 w7 E 61 (.bool d) cv := (ap7.grown.block E (by omega) h.eu).trans b0
  have hapc : ApartC ((L ++ [(d, cv, cl)]).map Prod.snd) := by
    rw [List.map_append]
    refine List.pairwise_append.2 ⟨h.oz.ap, by simp, fun x hx y hy => ?_⟩
    obtain ⟨x', hx', rfl⟩ := List.mem_map.1 hx
    obtain rfl : y = (cv, cl) := by simpa using hy
    exact h.ap x' hx'
  have oz7 : OwnZ w.heap.size w7 u' (L ++ [(d, cv, cl)]) := h.oz.app (World.grownBy_alloc _ _ none) own7 ap7.grown h.own hapc
  have bel7 : Below w.heap.size w w7 := (h.bel.alloc h.bel.size o).grown ap7.grown (by have := h.bel.size; omega) (fun k hk => (World.ownsRow.lt h.oz.row k hk).1)
  have eu7 : some E ≠ u'.ownBlock := fun e => by
    rcases ap7.new with q | q
    · exact h.eu (by rw [e, q])
    · have := q E e.symm; omega
  have tx7 : ∀ t ∈ T, OwnL w.heap.size w7 t.1 t.2 := fun t ht => row_apart (by decide) (World.ownsRow.kept (h.tx t ht) (World.grownBy_alloc wr o none) (one_or _)) (World.ownsRow.kept h.oz.row (World.grownBy_alloc wr o none) (one_or _)) ap7.grown
  have hout : ∀ {k : Nat}, k ≠ E → ((w7.setCell ⟨E, 0, none⟩ (.bool false)).setCell ⟨E, 1, none⟩ (.slice none 0 0)).heap[k]? = w7.heap[k]? := fun {k} hk => by
    rw [Below.heap_setCell _ ⟨E, 1, none⟩ _ k hk, Below.heap_setCell _ ⟨E, 0, none⟩ _ k hk]
  refine ⟨b7, ⟨⟨row_keepP oz7.row fun k hk => hout (fun e => eu7 (by rw [← e]; exact hk)), fun x hx => row_keepP (oz7.own x hx) fun k hk => hout (fun e => b7.not_row (by decide) (oz7.own x hx) (by rw [← e]; exact hk)), oz7.ap⟩, (b7.set0 _).set1 _, World.ownsRow_nil _ _ _ _, fun x hx => ?_, (bel7.setCell (p := ⟨E, 0, none⟩) h.ge _).setCell (p := ⟨E, 1, none⟩) h.ge _, h.ge, eu7, fun t ht => row_keepP (tx7 t ht) fun k hk => hout (fun e => b7.not_row (by decide) (tx7 t ht) (by rw [← e]; exact hk))⟩⟩
  by_cases hx0 : x.2.1.ownBlock = none
  · exact .inl hx0
  · exact .inr hx0
theorem Pz.more {v : Value} {ws : List (List UInt8)} (h : Pz w E T wr u L d cv cl) (ho : OwnL w.heap.size wr v ws) : Pz w E ((v, ws) :: T) wr u L d cv cl :=
  ⟨h.oz, h.bx, h.own, h.ap, h.bel, h.ge, h.eu, fun t ht => by
    rcases List.mem_cons.1 ht with rfl | ht
    · exact ho
    · exact h.tx t ht⟩
theorem Pz.less {t : Value × List (List UInt8)} (h : Pz w E (t :: T) wr u L d cv cl) : Pz w E T wr u L d cv cl :=
  ⟨h.oz, h.bx, h.own, h.ap, h.bel, h.ge, h.eu, fun t ht => h.tx t (List.mem_cons_of_mem _ ht)⟩
end
theorem OwnL.mono {B B' : Nat} {w : World} {v : Value} {ws : List (List UInt8)} (h : OwnL B w v ws) (hb : B' ≤ B) : OwnL B' w v ws := row_mono h hb
theorem own_form9p {B : Nat} {w : World} {v : Value} {n : Nat} {xs : List Value} (h : w.ownsRow B 3 1 v n xs) : ∃ a c, v = .slice a n c := by
  rcases h.2 with ⟨rfl, hn⟩ | ⟨g, cap, cur, rfl, _⟩
  · exact ⟨none, 0, by rw [hn]⟩
  · exact ⟨_, cap, rfl⟩

end Go.Proofs.YtilcokpaeapmeaaDoor
set_option linter.unusedSimpArgs false
set_option linter.unusedVariables false
namespace Go.Proofs.YtilcokpaeapmeaaDoor
open Go Go.RowKit

/-- what Parse leaves -/
def ParP (w : World) (r : List Stp × Nat) (e : Ending) (w' : World) : Prop :=
  ∃ v L, e = .returned (.tuple #[v, .int .i64 (r.2 : Int)]) ∧ OwnZ w.heap.size w' v L ∧ svS L = r.1 ∧ Below w.heap.size w w'
theorem ParP.mk {w w' : World} {r : List Stp × Nat} {v : Value} {L : List SV} {k : Int} (hk : k = (r.2 : Int)) (hL : svS L = r.1) (ho : OwnZ w.heap.size w' v L) (hb : Below w.heap.size w w') : ParP w r (.returned (.tuple #[v, .int .i64 k])) w' := ⟨v, L, by rw [hk], ho, hL, hb⟩

set_option maxHeartbeats 6400000 in
set_option maxRecDepth 100000 in
theorem rParse_any (s : ByteArray) (w : World) (hs : s.size ≤ 1099511627776) :
    Calls Tryd.prog 41 #[.string s] w (ParP w (parD s.data.toList)) := by
  obtain ⟨i0, hi, hz0, hz1, hz2⟩ := info_parts Tryd.info3
  obtain ⟨il, hil, hzl0, hzl1, hzl2⟩ := info_parts infoZ
  have HLn : Hid (Calls Tryd.prog 54 #[.string s] w fun e w' => ∃ v, e = .returned v ∧ OwnL w.heap.size w' v (lnsF s.data.toList []) ∧ Below w.heap.size w w') := rLines_any s w hs
  have h1 := lns_len s.data.toList []
  have h2 := lns_sum s.data.toList []
  rw [List.length_nil, Nat.add_zero, ba_len] at h1 h2
  have HX : Hid (finP (lnsF s.data.toList []).length [] (eatD (toks 1 (lnsF s.data.toList [])) st0) = parD s.data.toList) := par_finP _
  generalize parD s.data.toList = X at *
  generalize lnsF s.data.toList [] = ls at *
  have hlen : ls.length ≤ 1099511627776 := by omega
  have HSum : Hid (lenS ls ≤ 1099511627776) := by show _ ≤ _; omega
  clear h1 h2
  go_enter Tryd.func41, Tryd.ntmps41
  go_wp2_with fail
  refine HLn.out.mono ?_
  rintro e w1 ⟨lv, rfl, ol, bel1⟩
  have HOL : Hid (OwnL w.heap.size w1 lv ls) := ol
  obtain ⟨la, lc, rfl, hlc, hlm, _⟩ := ol.form
  clear ol HLn
  have PZ0 : Hid (Pz w w1.heap.size [(.slice la ls.length lc, ls)] (w1.alloc (.cells #[.bool false, .slice none 0 0] 61)) (.slice none 0 0) [] false (.slice none 0 0) []) :=
    ⟨OwnZ.nil _ _, Bx2.new _ _ _ _, World.ownsRow_nil _ _ _ _, (fun x hx => by cases hx), bel1.alloc bel1.size _, bel1.size, (fun h => by cases h), fun t ht => by
      obtain rfl : t = (.slice la ls.length lc, ls) := by simpa using ht
      exact HOL.out.below (below_box _ _)⟩
  go_wp2
  generalize w1.alloc (.cells #[.bool false, .slice none 0 0] 61) = w2 at *
  generalize w1.heap.size = E at *
  clear bel1 HOL
  go_loopg [4, 6, 8] ls.length (fun g u b i wr => ∃ (k : Nat) (L : List SV) (op d : Bool) (cv : Value) (cl : List Int), k + g = ls.length ∧ i = .int .i64 k ∧ b = .bool op ∧ L.length + cl.length + lenS (ls.drop k) ≤ 1099511627776 ∧ Hid (finP ls.length (svS L) (eatD (toks (k + 1) (ls.drop k)) ⟨op, d, cl⟩) = X) ∧ Hid (Pz w E [(.slice la ls.length lc, ls)] wr u L d cv cl))
  case atStart => exact ⟨0, [], false, false, _, [], by omega, rfl, rfl, by simpa using HSum.out, HX.out, PZ0.out⟩
  case round =>
    clear HX PZ0
    obtain ⟨k, L, op, d, cv, cl, hk, rfl, rfl, hw, HX, PZ⟩ := hrel
    have HK : Hid (k + gk = ls.length) := hk
    have HW : Hid (L.length + cl.length + lenS (ls.drop k) ≤ 1099511627776) := hw
    by_cases hlt : k < ls.length
    · obtain ⟨_, _, e', _, _, hcell⟩ := (PZ.out.tx (.slice la ls.length lc, ls) (by simp)).form
      obtain ⟨g, hg, hgl, hc0⟩ := hcell k hlt
      have e3 : la = some ⟨g, 0, none⟩ := by injection e' with q1 q2 q3; rw [q1]; exact hg
      clear hcell e' hg
      subst e3
      have HD : Hid (ls.drop k = ls.getD k [] :: ls.drop (k + 1)) := getD_drop ls [] hlt
      have HLe : Hid ((ls.getD k []).length ≤ 1099511627776) := by
        have h1 := lenS_each ls (ls.getD k []) (by rw [List.getD_eq_getElem?_getD, List.getElem?_eq_getElem hlt]; exact List.getElem_mem hlt)
        have h2 := HSum.out
        show _ ≤ _
        omega
      have HWx : Hid (L.length + cl.length + (ls.getD k []).length + lenS (ls.drop (k + 1)) ≤ 1099511627776) := by
        have h1 := HW.out
        rw [HD.out, lenS_cons] at h1
        show _ ≤ _
        omega
      generalize ls.getD k [] = ln at *
      obtain ⟨b, hb⟩ : ∃ b : ByteArray, b = ⟨ln.toArray⟩ := ⟨_, rfl⟩
      have HB : Hid (b.data.toList = ln) := by show _ = _; rw [hb]
      have hc1 : wr.cell? ⟨g, k, none⟩ = some (.string b) := by rw [hc0, hb]; rfl
      have hbs : b.size ≤ 1099511627776 := by rw [← ba_len, HB.out]; exact HLe.out
      clear hc0 hb hw hk
      by_cases hh : ln.head? = some 99
      · have hb0 : 0 < b.size := by
          rcases Nat.eq_zero_or_pos b.size with h | h
          · have : b.data.toList = [] := List.length_eq_zero_iff.1 (by rw [ba_len]; exact h)
            rw [HB.out] at this; rw [this] at hh; cases hh
          · exact h
        have hq : ((b[0].toNat : Int) == 99) = true := by
          have := ba_head hb0
          rw [HB.out, hh] at this
          have e : b[0] = 99 := by simpa using this.symm
          rw [e]; rfl
        have HRm := remark_any b wr hbs
        rw [HB.out] at HRm
        cases hp : ln.all plB
        · have HX2 : Hid (X = (svS L, k + 1)) := by show _ = _; rw [← HX.out, fin_bad HD.out hh hp]
          rw [hp] at HRm
          have HRm : Hid (Calls Tryd.prog 55 #[.string b] wr fun e w' => e = .returned (.bool false) ∧ w' = wr) := HRm
          clear hh hp
          go_wp2_with (go_at_call 55; refine HRm.out.mono ?_; rintro e w3 ⟨rfl, rfl⟩)
          go_returns
          rw [HX2.out]
          exact ParP.mk (by simp) rfl PZ.out.oz PZ.out.bel
        · have HX2 : Hid (finP ls.length (svS L) (eatD (toks (k + 1 + 1) (ls.drop (k + 1))) ⟨op, d, cl⟩) = X) := by show _ = _; rw [← HX.out, fin_rem HD.out hh hp]
          rw [hp] at HRm
          have HRm : Hid (Calls Tryd.prog 55 #[.string b] wr fun e w' => e = .returned (.bool true) ∧ w' = wr) := HRm
          clear hh hp
          go_wp2_with (go_at_call 55; refine HRm.out.mono ?_; rintro e w3 ⟨rfl, rfl⟩)
          go_roundg (gk - 1)
          case measure => have := HK.out; omega
          case rel => exact ⟨k + 1, L, op, d, cv, cl, by have := HK.out; omega, by go_num, rfl, by have := HWx.out; omega, HX2.out, PZ.out⟩
      · have HL2 : Hid (finP ls.length (svS L) (eatD (tokR (k + 1) (wdsF ln []) (ls.drop (k + 1))) ⟨op, d, cl⟩) = X) := by show _ = _; rw [← HX.out, fin_line HD.out hh]
        have HWd := rWords_any b wr hbs
        rw [HB.out] at HWd
        have HEa : Hid (∀ x ∈ wdsF ln [], x.length ≤ 1099511627776) := fun x hx => by have h1 := wds_each ln [] x hx; have h2 := HLe.out; simp at h1; omega
        have hwl : (wdsF ln []).length ≤ ln.length := by have := wds_len ln []; simpa using this
        have HWl : Hid (L.length + cl.length + ((wdsF ln []).length - 0) + lenS (ls.drop (k + 1)) ≤ 1099511627776) := by have := HWx.out; show _ ≤ _; omega
        have hwsl : (wdsF ln []).length ≤ 1099511627776 := by have := HLe.out; omega
        have HQ : Hid ((h : 0 < b.size) → ((b[0].toNat : Int) == 99) = false) := fun h => by
          rw [beq_eq_false_iff_ne]; intro e
          have hy : b[0].toNat < 256 := b[0].toNat_lt
          have h2 : b[0] = 99 := UInt8.toNat_inj.1 ((by omega : b[0].toNat = 99).trans rfl)
          exact hh (by rw [← HB.out, ba_head h, h2])
        generalize wdsF ln [] = ws at *
        have HWd : Hid (Calls Tryd.prog 56 #[.string b] wr fun e w' => ∃ v, e = .returned v ∧ OwnL wr.heap.size w' v ws ∧ Below wr.heap.size wr w') := HWd
        clear hh hwl HX HWx HLe HW HB HD
        have hsz := PZ.out.bel.size
        obtain ⟨G, hG⟩ : ∃ G, G = gk := ⟨gk, rfl⟩
        subst hG
        by_cases hb0 : 0 < b.size
        all_goals
          first | have hq := HQ.out hb0 | skip
          clear HQ
          go_wp2_with fail
          refine HWd.out.mono ?_
          rintro e w3 ⟨wv, rfl, ow, bel3⟩
          have HOW : Hid (OwnL w.heap.size w3 wv ws) := ow.mono hsz
          obtain ⟨wa, wc, rfl, hwc, hwm, _⟩ := ow.form
          have PZ3 : Hid (Pz w E [(.slice wa ws.length wc, ws), (.slice (some ⟨g, 0, none⟩) ls.length lc, ls)] w3 _ L d cv cl) := (PZ.out.below bel3).more HOW.out
          clear ow HWd HOW bel3 PZ hc1
          go_wp2
          go_loopg [4, 6, 10] ws.length (fun g2 u b i wr => ∃ (j : Nat) (L : List SV) (op d : Bool) (cv : Value) (cl : List Int), j + g2 = ws.length ∧ i = .int .i64 j ∧ b = .bool op ∧ L.length + cl.length + (ws.length - j) + lenS (ls.drop (k + 1)) ≤ 1099511627776 ∧ Hid (finP ls.length (svS L) (eatD (tokR (k + 1) (ws.drop j) (ls.drop (k + 1))) ⟨op, d, cl⟩) = X) ∧ Hid (Pz w E [(.slice wa ws.length wc, ws), (.slice (some ⟨g, 0, none⟩) ls.length lc, ls)] wr u L d cv cl))
          case atStart => exact ⟨0, L, op, d, cv, cl, by omega, rfl, rfl, HWl.out, HL2.out, PZ3.out⟩
          case round =>
            clear HL2 PZ3 HWl
            obtain ⟨j, L, op, d, cv, cl, hj, rfl, rfl, hw2, HX, PZ⟩ := hrel
            have HJ : Hid (j + gk = ws.length) := hj
            by_cases hjl : j < ws.length
            · obtain ⟨_, _, e', _, _, hcell⟩ := (PZ.out.tx (.slice wa ws.length wc, ws) (by simp)).form
              obtain ⟨g2, hg2, hgl2, hc2⟩ := hcell j hjl
              have e3 : wa = some ⟨g2, 0, none⟩ := by injection e' with q1 q2 q3; rw [q1]; exact hg2
              clear hcell e' hg2
              subst e3
              have HD : Hid (ws.drop j = ws.getD j [] :: ws.drop (j + 1)) := getD_drop ws [] hjl
              have HLe : Hid ((ws.getD j []).length ≤ 1099511627776) := HEa.out _ (by rw [List.getD_eq_getElem?_getD, List.getElem?_eq_getElem hjl]; exact List.getElem_mem hjl)
              rw [HD.out] at HX
              have HW : Hid (L.length + cl.length + 1 + (ws.length - (j + 1)) + lenS (ls.drop (k + 1)) ≤ 1099511627776) := by show _ ≤ _; omega
              have hLl : L.length ≤ 1099511627776 := by omega
              have hcl : cl.length ≤ 1099511627776 := by omega
              generalize ws.getD j [] = wd at *
              obtain ⟨y, hy⟩ : ∃ y : ByteArray, y = ⟨wd.toArray⟩ := ⟨_, rfl⟩
              have HB : Hid (y.data.toList = wd) := by show _ = _; rw [hy]
              have hc3 : wr.cell? ⟨g2, j, none⟩ = some (.string y) := by rw [hc2, hy]; rfl
              have hys : y.size ≤ 1099511627776 := by rw [← ba_len, HB.out]; exact HLe.out
              have hqd : (y.toList == [100]) = (wd == [100]) := by rw [ByteArray.toList_eq, HB.out]
              have hq0 : (y.toList == [48]) = (wd == [48]) := by rw [ByteArray.toList_eq, HB.out]
              have HLi := fun W => rLit_any y W hys
              rw [HB.out] at HLi
              clear hc2 hy hw2 hj HLe HD
              obtain ⟨ca, cc, hcv⟩ := own_form PZ.out.own
              subst hcv
              by_cases hA : wd = [100]
              · subst hA
                rw [beq_self_eq_true] at hqd
                cases op
                · have HX2 : Hid (finP ls.length (svS L) (eatD (tokR (k + 1) (ws.drop (j + 1)) (ls.drop (k + 1))) ⟨true, true, cl⟩) = X) := by show _ = _; rw [← HX.out, fin_take takeP_d, List.append_nil]
                  have k0 := PZ.out.bx.c0
                  have f0 := PZ.out.bx.f0
                  clear HX HLi
                  go_wp2
                  go_roundg (gk - 1)
                  case measure => have := HJ.out; omega
                  case rel => exact ⟨j + 1, L, true, true, _, cl, by have := HJ.out; omega, by go_num, rfl, by have := HW.out; omega, HX2.out, PZ.out.drop true⟩
                · have HT : Hid (takeW ⟨true, d, cl⟩ [100] = none) := by show _ = _; exact takeP_n rfl (by decide) (by decide)
                  have HX2 : Hid (X = (svS L, k + 1)) := by show _ = _; rw [← HX.out, fin_no HT.out]
                  have HLi : Hid (∀ W : World, Calls Tryd.prog 57 #[.string y] W fun e w' => e = .returned (.bool false) ∧ Below W.heap.size W w') := fun W => HLi W
                  rw [show (([100] : List UInt8) == [48]) = false from rfl] at hq0
                  clear HX HT
                  go_wp2_with (go_at_call 57; refine (HLi.out _).mono ?_; rintro e w4 ⟨rfl, bel4⟩)
                  go_returns
                  rw [HX2.out]
                  have PZ4 := PZ.out.below bel4
                  exact ParP.mk (by simp) rfl PZ4.oz PZ4.bel
              · rw [show (wd == [100]) = false from by simpa using hA] at hqd
                have HA : Hid ((wd == [100] && !op) = false) := by show _ = _; rw [show (wd == [100]) = false from by simpa using hA]; rfl
                by_cases h0 : wd = [48]
                · subst h0
                  rw [beq_self_eq_true] at hq0
                  have HX2 : Hid (finP ls.length (svS (L ++ [(d, .slice ca cl.length cc, cl)])) (eatD (tokR (k + 1) (ws.drop (j + 1)) (ls.drop (k + 1))) ⟨false, false, []⟩) = X) := by show _ = _; rw [← HX.out, fin_take (takeP_0 _), svS_snoc]
                  have k0 := PZ.out.bx.c0
                  have k1 := PZ.out.bx.c1
                  have hsw := PZ.out.bel.size
                  clear HX HLi HA hA
                  generalize hcn : cl.length = n at *
                  have HCN : Hid (cl.length = n) := hcn
                  clear hcn
                  go_wp2_with (at_builtin; refine wpList_append_apk rfl _ _ 22 rfl w.heap.size 61 il (.agg #[.bool false, .slice none 0 0]) 2 32 Tryd.underlying22 hil hzl0 hzl1 hzl2 rfl (by decide) _ L.length (svC L) rfl (World.ownsRow.alloc PZ.out.oz.row _) _ 1 1 [.bool d, .slice ca n cc] rfl rfl (cell_two_new9 _ _ _ _) (by simp [Value.oneCell']) (by unfold maxLen; omega) (by omega) (by simp; omega) ?_; intro v7 w7 own7 ap7; have A7 := PZ.out.fin own7 ap7; have m0 := A7.1.c0; have m1 := A7.1.c1; have n0 := A7.1.f0; have n1 := A7.1.f1; have F7 := A7.2; have F7 : Hid (Pz w E [(.slice (some ⟨g2, 0, none⟩) ws.length wc, ws), (.slice (some ⟨g, 0, none⟩) ls.length lc, ls)] ((w7.setCell ⟨E, 0, none⟩ (.bool false)).setCell ⟨E, 1, none⟩ (.slice none 0 0)) v7 (L ++ [(d, .slice ca n cc, cl)]) false (.slice none 0 0) []) := F7; clear A7 own7 ap7)
                  go_roundg (gk - 1)
                  case measure => have := HJ.out; omega
                  case rel => exact ⟨j + 1, L ++ [(d, Value.slice ca n cc, cl)], false, false, _, [], by have := HJ.out; omega, by go_num, rfl, by have := HW.out; simp; omega, HX2.out, F7.out⟩
                · rw [show (wd == [48]) = false from by simpa using h0] at hq0
                  cases hl : litQ wd
                  · have HT : Hid (takeW ⟨op, d, cl⟩ wd = none) := takeP_n HA.out h0 hl
                    have HX2 : Hid (X = (svS L, k + 1)) := by show _ = _; rw [← HX.out, fin_no HT.out]
                    rw [hl] at HLi
                    have HLi : Hid (∀ W : World, Calls Tryd.prog 57 #[.string y] W fun e w' => e = .returned (.bool false) ∧ Below W.heap.size W w') := HLi
                    clear HX HT hl h0 hA HA
                    go_wp2_with (go_at_call 57; refine (HLi.out _).mono ?_; rintro e w4 ⟨rfl, bel4⟩)
                    go_returns
                    rw [HX2.out]
                    have PZ4 := PZ.out.below bel4
                    exact ParP.mk (by simp) rfl PZ4.oz PZ4.bel
                  · obtain ⟨z, hz, hzk, hT⟩ := takeP_l (st := ⟨op, d, cl⟩) HA.out h0 hl
                    have HX2 : Hid (finP ls.length (svS L) (eatD (tokR (k + 1) (ws.drop (j + 1)) (ls.drop (k + 1))) ⟨true, d, cl ++ [z]⟩) = X) := by show _ = _; rw [← HX.out, fin_take hT, List.append_nil]
                    rw [hl] at HLi
                    have HLi : Hid (∀ W : World, Calls Tryd.prog 57 #[.string y] W fun e w' => e = .returned (.bool true) ∧ Below W.heap.size W w') := HLi
                    have HV : Hid (∀ W : World, Calls Tryd.prog 58 #[.string y] W fun e w' => e = .returned (.int .i64 z) ∧ Below W.heap.size W w') := fun W => (rValue_any y z W (by rw [HB.out]; exact hz) hys).mono fun e w' ⟨n, e1, _, e2, e3⟩ => ⟨by rw [e1, e2 hzk], e3⟩
                    clear HX hl h0 hA HA hz hzk hT HB
                    go_upto_region 25 with (go_at_call 57; refine (HLi.out _).mono ?_; rintro e w4 ⟨rfl, bel4⟩)
                    have PZ4 : Hid (Pz w E [(.slice (some ⟨g2, 0, none⟩) ws.length wc, ws), (.slice (some ⟨g, 0, none⟩) ls.length lc, ls)] w4 _ L d (.slice ca cl.length cc) cl) := PZ.out.below bel4
                    clear PZ bel4 hc3 HLi
                    have k1 := PZ4.out.bx.c1
                    have hsw := PZ4.out.bel.size
                    go_region_law (first
                      | (go_simp; go_at_call 58; refine (HV.out _).mono ?_; intro e w9 hh; obtain ⟨he, hb9⟩ := hh; rw [he]; clear he; have P9 := PZ4.out.below (Below.step (Below.refl _ _).drew hb9); have q1 := P9.bx.c1; have q2 := (P9.bx.below (below_box w9 (.cells #[.int .i64 z] 3))).c1; have hs9 := P9.bel.size; have P9 : Hid (Pz w E [(.slice (some ⟨g2, 0, none⟩) ws.length wc, ws), (.slice (some ⟨g, 0, none⟩) ls.length lc, ls)] w9 _ L d (.slice ca cl.length cc) cl) := P9; clear hb9; dsimp only)
                      | (refine step_append_apk rfl (.tmp 82) (.tmp 85) 58 rfl w.heap.size 3 i0 (.int .i64 0) 1 8 Tryd.underlying58 hi hz0 hz1 hz2 rfl (by decide) (.slice ca cl.length cc) cl.length (cl.map (Value.int .i64)) (by simp [Act.eval, Act.put]) (World.ownsRow.alloc P9.out.own _) ⟨w9.heap.size, 0, none⟩ 1 1 [.int .i64 z] (by simp [Act.eval, Act.put]) rfl (cell_one_new _ _ _) (by simp [Value.oneCell']) (by unfold maxLen; omega) (by omega) (by simp; omega) ?_; intro v7 w7 own7 ap7; obtain ⟨a7, c7, hv7⟩ := own_form9p own7; subst hv7; have A7 := P9.out.lit own7 ap7; have r1 := A7.1.c1; have s1 := A7.1.f1; have F7 := A7.2; have F7 : Hid (Pz w E [(.slice (some ⟨g2, 0, none⟩) ws.length wc, ws), (.slice (some ⟨g, 0, none⟩) ls.length lc, ls)] (w7.setCell ⟨E, 1, none⟩ (.slice a7 (cl.length + 1) c7)) _ L d (.slice a7 (cl.length + 1) c7) (cl ++ [z])) := F7; clear A7 own7 ap7))
                    all_goals
                      go_wp2
                      go_roundg (gk - 1)
                      case measure => have := HJ.out; omega
                      case rel => exact ⟨j + 1, L, true, d, _, cl ++ [z], by have := HJ.out; omega, by go_num, rfl, by have := HW.out; simp; omega, HX2.out, F7.out⟩
            · obtain rfl : j = ws.length := by omega
              have HX2 : Hid (finP ls.length (svS L) (eatD (toks (k + 1 + 1) (ls.drop (k + 1))) ⟨op, d, cl⟩) = X) := by have := HX.out; rw [List.drop_length] at this; show _ = _; rw [← this, fin_next]
              have HW : Hid (L.length + cl.length + lenS (ls.drop (k + 1)) ≤ 1099511627776) := by show _ ≤ _; omega
              clear hj HX hw2
              go_wp2
              go_roundg (G - 1)
              case measure => have := HK.out; omega
              case rel => exact ⟨k + 1, L, op, d, cv, cl, by have := HK.out; omega, by go_num, rfl, HW.out, HX2.out, PZ.out.less⟩
    · obtain rfl : k = ls.length := by omega
      clear hk
      cases op
      · have HX2 : Hid (X = (svS L, 0)) := by show _ = _; rw [← HX.out, List.drop_length, fin_end]; rfl
        go_wp2
        go_returns
        rw [HX2.out]
        exact ParP.mk rfl rfl PZ.out.oz PZ.out.bel
      · have HX2 : Hid (X = (svS L, ls.length + 1)) := by show _ = _; rw [← HX.out, List.drop_length, fin_end]; rfl
        go_wp2
        go_returns
        rw [HX2.out]
        exact ParP.mk (by simp) rfl PZ.out.oz PZ.out.bel

end Go.Proofs.YtilcokpaeapmeaaDoor
set_option linter.unusedSimpArgs false
set_option linter.unusedVariables false
namespace Go.Proofs.YtilcokpaeapmeaaDoor
open Go Go.RowKit

/-- what is read of a text is no longer than it -/
theorem eat_len : ∀ (T : List Tok) (st : RSt), (eatD T st).1.length ≤ T.length ∧ ∀ x ∈ (eatD T st).1, x.2.length ≤ T.length + st.cl.length
  | [], st => by simp [eatD]
  | (none, k) :: r, st => by simp [eatD]
  | (some w, k) :: r, st => by
    rw [eatD]
    cases ht : takeW st w with
    | none => simp
    | some y =>
      obtain ⟨st', g⟩ := y
      have ih := eat_len r st'
      have hc : (st'.cl.length ≤ st.cl.length + 1 ∧ g.length ≤ 1 ∧ ∀ x ∈ g, x.2.length ≤ st.cl.length) := by
        unfold takeW at ht
        split at ht
        · cases ht; simp
        · split at ht
          · cases ht
          · split at ht
            · cases ht; simp
            · cases ht; simp
      simp only [List.length_append, List.length_cons, List.mem_append]
      refine ⟨by omega, fun x hx => ?_⟩
      rcases hx with hx | hx
      · have := hc.2.2 x hx; omega
      · have := ih.2 x hx; omega
theorem toks_len : ∀ (k : Nat) (ls : List (List UInt8)), (toks k ls).length ≤ lenS ls
  | k, [] => by simp [toks, lenS]
  | k, ln :: r => by
    rw [toks, lenS_cons, List.length_append]
    have h1 := toks_len (k + 1) r
    have h2 : (tokL k ln).length ≤ ln.length := by
      unfold tokL
      split
      · rename_i h
        split
        · simp
        · cases ln with
          | nil => cases h
          | cons a b => simp
      · rw [List.length_map]; have := wds_len ln []; simpa using this
    omega
theorem par_len (s : List UInt8) : (parD s).1.length ≤ s.length ∧ ∀ x ∈ (parD s).1, x.2.length ≤ s.length := by
  rw [par_lines]
  have h1 := eat_len (toks 1 (lnsF s [])) st0
  have h2 := toks_len 1 (lnsF s [])
  have h3 := lns_sum s []
  simp only [List.length_nil, Nat.add_zero] at h3
  have h4 : st0.cl.length = 0 := rfl
  exact ⟨by dsimp only; omega, fun x hx => by have := h1.2 x hx; omega⟩

/-- what the document's Read says -/
def redB (T : List UInt8) : List Stp × Int × Nat := if (parD T).2 = 0 then ((parD T).1, 0, 0) else ([], 90, (parD T).2)
theorem red_len (T : List UInt8) : (redB T).1.length ≤ T.length ∧ ∀ x ∈ (redB T).1, x.2.length ≤ T.length := by
  unfold redB
  split
  · exact par_len T
  · exact ⟨by simp, fun x hx => by cases hx⟩
set_option maxHeartbeats 3200000 in
set_option maxRecDepth 100000 in
theorem rRead_any (s : ByteArray) (w : World) (hs : s.size ≤ 1099511627776) :
    Calls Tryd.prog 15 #[.string s] w fun e w' => ∃ v, e = .returned (.tuple #[v, .int .i64 (redB s.data.toList).2.1, .int .i64 ((redB s.data.toList).2.2 : Int)]) ∧ OwnS w.heap.size w' v (redB s.data.toList).1 ∧ Below w.heap.size w w' := by
  have HP : Hid (Calls Tryd.prog 41 #[.string s] w (ParP w (parD s.data.toList))) := rParse_any s w hs
  by_cases h0 : (parD s.data.toList).2 = 0
  · have HR : Hid (redB s.data.toList = ((parD s.data.toList).1, 0, 0)) := by show _ = _; unfold redB; rw [if_pos h0]
    generalize redB s.data.toList = R at *
    generalize parD s.data.toList = P at *
    obtain ⟨l, ln⟩ := P
    dsimp only at *
    subst h0
    go_enter Tryd.func15, Tryd.ntmps15
    go_wp2_with fail
    refine HP.out.mono ?_
    rintro e w1 ⟨v, L, rfl, oz, hl, bel⟩
    have HZ : Hid (OwnS w.heap.size w1 v l) := ⟨L, oz, hl⟩
    clear oz hl HP
    go_wp2
    go_returns
    rw [HR.out]
    exact ⟨_, rfl, HZ.out, bel⟩
  · have HR : Hid (redB s.data.toList = ([], 90, (parD s.data.toList).2)) := by show _ = _; unfold redB; rw [if_neg h0]
    generalize redB s.data.toList = R at *
    generalize parD s.data.toList = P at *
    obtain ⟨l, ln⟩ := P
    dsimp only at *
    have hpos : (0 : Int) < (ln : Int) := by omega
    go_enter Tryd.func15, Tryd.ntmps15
    go_wp2_with fail
    refine HP.out.mono ?_
    rintro e w1 ⟨v, L, rfl, oz, hl, bel⟩
    dsimp only
    clear oz hl HP
    go_wp2
    go_returns
    rw [HR.out]
    exact ⟨_, rfl, ⟨[], OwnZ.nil _ _, rfl⟩, bel⟩
set_option maxHeartbeats 3200000 in
set_option maxRecDepth 100000 in
theorem rSteps_any (s : ByteArray) (w : World) (hs : s.size ≤ 1099511627776) :
    Calls Tryd.prog 13 #[.string s] w fun e w' => ∃ v, e = .returned v ∧ OwnS w.heap.size w' v (parD s.data.toList).1 ∧ Below w.heap.size w w' := by
  have HP : Hid (Calls Tryd.prog 41 #[.string s] w (ParP w (parD s.data.toList))) := rParse_any s w hs
  generalize parD s.data.toList = P at *
  obtain ⟨l, ln⟩ := P
  dsimp only at *
  go_enter Tryd.func13, Tryd.ntmps13
  go_wp2_with fail
  refine HP.out.mono ?_
  rintro e w1 ⟨v, L, rfl, oz, hl, bel⟩
  dsimp only at *
  have HZ : Hid (OwnS w.heap.size w1 v l) := ⟨L, oz, hl⟩
  clear oz hl HP
  go_wp2
  go_ret
  exact ⟨_, rfl, HZ.out, bel⟩

end Go.Proofs.YtilcokpaeapmeaaDoor
