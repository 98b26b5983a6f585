/-
  CnfModels: what lies where: a count in a box; want; the copy that is written over.
  KEEP: set on app at below new trans refl kept rd rds mono own row cells lt box from cell low next zero turn item each bx rb bm sz
-/
import Derived.Test.YtfklgfdkpmfdnaaDoorRangeY
import Derived.Test.YtfklgfdkpmfdnaaDoorRMod
import Derived.Test.YtfklgfdkpmfdnaaDoorSameBs
import Derived.Test.YtfklgfdkpmfdnaaDoorCopy
set_option linter.unusedSimpArgs false
set_option linter.unusedVariables false
namespace Go.Proofs.YtfklgfdkpmfdnaaDoor
open Go Go.RowKit Go.Shelf

theorem heap_set {w : World} {g : Nat} {c : Array Value} {e : TypeId} {f : Nat × Nat} (h : w.heap[g]? = some (.cells c e f)) (k : Nat) (v : Value) : (w.setCell ⟨g, k, none⟩ v).heap[g]? = some (.cells (c.setIfInBounds k v) e f) := by
  obtain ⟨hlt, hk⟩ := Array.getElem?_eq_some_iff.1 h
  show (w.heap.modify g _)[g]? = _
  rw [Array.getElem?_eq_getElem (by rw [Array.size_modify]; exact hlt), Array.getElem_modify_self, hk]
  rfl
theorem heap_set_other (w : World) {g k : Nat} (j : Nat) (v : Value) (h : k ≠ g) : (w.setCell ⟨g, j, none⟩ v).heap[k]? = w.heap[k]? := Below.heap_setCell _ _ _ _ h
/-- what stands between two rounds -/
structure Sk (w2 W : World) (n : Nat) : Prop where
  bel : Below w2.heap.size w2 W
  nb : W.heap[w2.heap.size]? = some (.cells #[.int .i64 (n : Int)] 3 (0, 0))
theorem Sk.below {w2 W W' : World} {n : Nat} (h : Sk w2 W n) (hb : Below W.heap.size W W') : Sk w2 W' n := ⟨Below.step h.bel hb, (hb.block _ (Array.getElem?_eq_some_iff.1 h.nb).1).trans h.nb⟩
theorem Sk.turn {w2 W W' : World} {n : Nat} {row : Option Nat} (h : Sk w2 W n) (hg : W.grownBy W' row) (hr : ∀ r, row = some r → w2.heap.size + 1 ≤ r) : Sk w2 W' n :=
  ⟨⟨hg.os.trans h.bel.os, hg.tape.trans h.bel.tape, hg.output.trans h.bel.output, Nat.le_trans h.bel.size hg.size, fun k hk => (hg.block k (Nat.lt_of_lt_of_le hk h.bel.size) (fun e => by have := hr k e.symm; omega)).trans (h.bel.block k hk)⟩, (hg.block _ (Array.getElem?_eq_some_iff.1 h.nb).1 (fun e => by have := hr _ e.symm; omega)).trans h.nb⟩
theorem Sk.cell {w2 W : World} {n : Nat} (h : Sk w2 W n) : W.cell? ⟨w2.heap.size, 0, none⟩ = some (.int .i64 (n : Int)) ∧ W.frozen? ⟨w2.heap.size, 0, none⟩ = false := ⟨by simp [World.cell?, h.nb], by simp [World.frozen?, h.nb]⟩
theorem Sk.low {w2 W W' : World} {n B : Nat} (h : Sk w2 W n) (hb : Below B W W') (hB : w2.heap.size + 1 ≤ B) : Sk w2 W' n :=
  ⟨h.bel.trans (hb.mono (by omega)), (hb.block _ (by omega)).trans h.nb⟩
theorem Sk.put {w2 W : World} {n : Nat} (h : Sk w2 W n) (m : Nat) : Sk w2 (W.setCell ⟨w2.heap.size, 0, none⟩ (.int .i64 (m : Int))) m := by
  refine ⟨h.bel.setCell (p := ⟨w2.heap.size, 0, none⟩) (Nat.le_refl _) _, ?_⟩
  have := heap_set h.nb 0 (.int .i64 (m : Int))
  rw [this]
  simp
theorem Sk.new (w2 : World) : Sk w2 (w2.alloc (.cells #[.int .i64 0] 3)) 0 := ⟨below_box _ _, World.alloc_heap_new _ _⟩
/-- the k-th of want is what is yielded -/
theorem want_item {B : Nat} {W : World} {av : Option Addr} {kv : Nat} {L pre : List Itb} {x : Itb} {R : List (List Bool)} (h : OwnM B W (.slice av L.length kv) L) (hL : L.map Prod.snd = R) (hp : (pre ++ [x]).map Prod.snd <+: R) :
    pre.length < L.length ∧ ∃ g u, av = some ⟨g, 0, none⟩ ∧ W.cell? ⟨g, pre.length, none⟩ = some u ∧ OwnB B W u x.2 := by
  subst hL
  have hlt : pre.length < L.length := by
    have := hp.length_le
    simp at this
    omega
  obtain ⟨row, each⟩ := h
  rcases id row.2 with ⟨e, h0⟩ | ⟨g, cap, cur, e, _⟩
  · omega
  · obtain ⟨rfl, rfl⟩ : av = some ⟨g, 0, none⟩ ∧ kv = cap := by injection e with q1 q2 q3; exact ⟨q1, q3⟩
    refine ⟨hlt, g, (L[pre.length]).1, rfl, ?_, ?_⟩
    · rw [World.ownsRow.cellAt row pre.length (by simpa using hlt)]
      simp [hlt]
    · have h1 := each _ (List.getElem_mem hlt)
      have h2 : (L[pre.length]).2 = x.2 := by
        obtain ⟨t, ht⟩ := hp
        have e1 : (L.map Prod.snd)[pre.length]? = some x.2 := by rw [← ht]; simp
        rw [List.getElem?_map, List.getElem?_eq_getElem hlt] at e1
        simpa using e1
      rw [h2] at h1
      exact h1
theorem ownm_below {B : Nat} {w w' : World} {v : Value} {L : List Itb} (h : OwnM B w v L) (hb : Below w.heap.size w w') : OwnM B w' v L := h.below hb
/-- one list of the copy, as far as it matters: whole numbers in a block between b0 and lo -/
def Lb (b0 lo : Nat) (W : World) (a : Option Addr) (m : Nat) : Prop :=
  m = 0 ∨ ∃ g cs, a = some ⟨g, 0, none⟩ ∧ b0 ≤ g ∧ g < lo ∧ W.heap[g]? = some (.cells cs 3 (0, 0)) ∧ m ≤ cs.size ∧ ∀ j, j < m → ∃ z : Int, cs[j]? = some (.int .i64 z)
/-- the copy's row -/
structure Mn (b0 lo N gr : Nat) (arr : Array Value) (W : World) : Prop where
  rb : b0 ≤ gr ∧ gr < lo
  row : W.heap[gr]? = some (.cells arr 31 (0, 0))
  sz : N ≤ arr.size
  each : ∀ i, i < N → ∃ a m c, arr[i]? = some (.slice a m c) ∧ m * 8 ≤ 140737488351232 ∧ Lb b0 lo W a m
/-- all but the blocks from b0 up to lo is as it was -/
structure Lp (b0 lo : Nat) (A W : World) : Prop where
  os : W.os = A.os
  tape : W.tape = A.tape
  output : W.output = A.output
  size : W.heap.size = A.heap.size
  block : ∀ k, (k < b0 ∨ lo ≤ k) → W.heap[k]? = A.heap[k]?
theorem Lp.refl (b0 lo : Nat) (A : World) : Lp b0 lo A A := ⟨rfl, rfl, rfl, rfl, fun _ _ => rfl⟩
theorem Lp.set {b0 lo : Nat} {A W : World} (h : Lp b0 lo A W) {g : Nat} (h1 : b0 ≤ g) (h2 : g < lo) (j : Nat) (v : Value) : Lp b0 lo A (W.setCell ⟨g, j, none⟩ v) :=
  ⟨h.os, h.tape, h.output, (World.size_setCell _ _ _).trans h.size, fun k hk => (heap_set_other W j v (by omega)).trans (h.block k hk)⟩
theorem Lb.set {b0 lo : Nat} {W : World} {a : Option Addr} {m : Nat} (h : Lb b0 lo W a m) {g : Nat} (j : Nat) (y : Int) : Lb b0 lo (W.setCell ⟨g, j, none⟩ (.int .i64 y)) a m := by
  rcases h with h | ⟨g', cs, e, h1, h2, h3, h4, h5⟩
  · exact .inl h
  · refine .inr ?_
    by_cases hg : g' = g
    · subst hg
      refine ⟨g', _, e, h1, h2, heap_set h3 j _, by rw [Array.size_setIfInBounds]; exact h4, fun i hi => ?_⟩
      obtain ⟨z, hz⟩ := h5 i hi
      by_cases hij : j = i
      · subst hij
        exact ⟨y, by rw [Array.getElem?_setIfInBounds_self_of_lt (by omega)]⟩
      · exact ⟨z, by rw [Array.getElem?_setIfInBounds_ne hij]; exact hz⟩
    · exact ⟨g', cs, e, h1, h2, (heap_set_other W j _ hg).trans h3, h4, h5⟩
theorem Lb.other {b0 lo : Nat} {W : World} {a : Option Addr} {m : Nat} (h : Lb b0 lo W a m) {g : Nat} {arr : Array Value} (hg : W.heap[g]? = some (.cells arr 31 (0, 0))) (j : Nat) (y : Value) : Lb b0 lo (W.setCell ⟨g, j, none⟩ y) a m := by
  rcases h with h | ⟨g', cs, e, h1, h2, h3, h4, h5⟩
  · exact .inl h
  · refine .inr ⟨g', cs, e, h1, h2, (heap_set_other W j _ (fun e => ?_)).trans h3, h4, h5⟩
    subst e
    rw [h3] at hg
    simp at hg
theorem Mn.set {b0 lo N gr : Nat} {arr : Array Value} {W : World} (h : Mn b0 lo N gr arr W) {g : Nat} {cs : Array Value} (hg : W.heap[g]? = some (.cells cs 3 (0, 0))) (j : Nat) (y : Int) : Mn b0 lo N gr arr (W.setCell ⟨g, j, none⟩ (.int .i64 y)) := by
  refine ⟨h.rb, (heap_set_other W j _ (fun e => ?_)).trans h.row, h.sz, fun i hi => ?_⟩
  · subst e
    rw [h.row] at hg
    simp at hg
  · obtain ⟨a, m, c, h1, h2, h3⟩ := h.each i hi
    exact ⟨a, m, c, h1, h2, h3.set j y⟩
theorem Mn.nil {b0 lo N gr : Nat} {arr : Array Value} {W : World} (h : Mn b0 lo N gr arr W) (k : Nat) : Mn b0 lo N gr (arr.setIfInBounds k (.slice none 0 0)) (W.setCell ⟨gr, k, none⟩ (.slice none 0 0)) := by
  refine ⟨h.rb, heap_set h.row k _, by rw [Array.size_setIfInBounds]; exact h.sz, fun i hi => ?_⟩
  by_cases hik : k = i
  · subst hik
    have := h.sz
    exact ⟨none, 0, 0, by rw [Array.getElem?_setIfInBounds_self_of_lt (by omega)], by omega, .inl rfl⟩
  · obtain ⟨a, m, c, h1, h2, h3⟩ := h.each i hi
    exact ⟨a, m, c, by rw [Array.getElem?_setIfInBounds_ne hik]; exact h1, h2, h3.other h.row k _⟩
theorem Mn.of {b0 lo : Nat} {W : World} {a : Option Addr} {c : Nat} {css : List (List Int)} (h : OwnF b0 W (.slice a css.length c) css) (hlo : W.heap.size ≤ lo) (h8 : ∀ z ∈ css, z.length * 8 ≤ 140737488351232) :
    css.length = 0 ∨ ∃ gr arr, a = some ⟨gr, 0, none⟩ ∧ Mn b0 lo css.length gr arr W := by
  obtain ⟨L, hL, rfl⟩ := h
  rw [List.length_map] at *
  rcases hL.row.2 with ⟨_, h0⟩ | ⟨g, cap, cur, e, h1, h2, h3, h4, h5, h6⟩
  · exact .inl h0
  · refine .inr ⟨g, cur, by injection e, ⟨h1, Nat.lt_of_lt_of_le (Array.getElem?_eq_some_iff.1 h2).1 hlo⟩, h2, by omega, fun i hi => ?_⟩
    have hx := hL.own L[i] (List.getElem_mem hi)
    have hcur : cur[i]? = some (L[i]).1 := by
      have e1 : (cur.toList.take (L.length * 1))[i]? = (L.map Prod.fst)[i]? := by rw [h6]
      rw [List.getElem?_take_of_lt (by omega), List.getElem?_map, List.getElem?_eq_getElem hi] at e1
      simpa using e1
    have h8i := h8 (L[i]).2 (List.mem_map.2 ⟨_, List.getElem_mem hi, rfl⟩)
    rcases hx.2 with ⟨e0, h0⟩ | ⟨g', cap', cur', e', k1, k2, k3, k4, k5, k6⟩
    · exact ⟨none, 0, 0, by rw [hcur, e0], by omega, .inl rfl⟩
    · refine ⟨_, _, _, by rw [hcur, e'], h8i, .inr ⟨g', cur', rfl, k1, Nat.lt_of_lt_of_le (Array.getElem?_eq_some_iff.1 k2).1 hlo, k2, by omega, fun j hj => ?_⟩⟩
      refine ⟨(L[i]).2[j], ?_⟩
      have e1 : (cur'.toList.take ((L[i]).2.length * 1))[j]? = ((L[i]).2.map (Value.int .i64))[j]? := by rw [k6]
      rw [List.getElem?_take_of_lt (by omega), List.getElem?_map, List.getElem?_eq_getElem hj] at e1
      simpa using e1
theorem Mn.later {b0 lo N gr : Nat} {arr : Array Value} {W W' : World} (h : Mn b0 lo N gr arr W) (hb : Below W.heap.size W W') : Mn b0 lo N gr arr W' := by
  refine ⟨h.rb, (hb.block _ (Array.getElem?_eq_some_iff.1 h.row).1).trans h.row, h.sz, fun i hi => ?_⟩
  obtain ⟨a, m, c, h1, h2, h3⟩ := h.each i hi
  refine ⟨a, m, c, h1, h2, ?_⟩
  rcases h3 with h3 | ⟨g', cs, e, k1, k2, k3, k4, k5⟩
  · exact .inl h3
  · exact .inr ⟨g', cs, e, k1, k2, (hb.block _ (Array.getElem?_eq_some_iff.1 k3).1).trans k3, k4, k5⟩
theorem Lp.drew {b0 lo : Nat} {A W : World} (h : Lp b0 lo A W) : Lp b0 lo A W.drew := ⟨h.os, h.tape, h.output, h.size, h.block⟩
theorem Mn.drew {b0 lo N gr : Nat} {arr : Array Value} {W : World} (h : Mn b0 lo N gr arr W) : Mn b0 lo N gr arr W.drew := ⟨h.rb, h.row, h.sz, h.each⟩
theorem Lb.drew {b0 lo : Nat} {W : World} {a : Option Addr} {m : Nat} (h : Lb b0 lo W a m) : Lb b0 lo W.drew a m := h
theorem Lp.below {b0 lo : Nat} {A W : World} (h : Lp b0 lo A W) : Below b0 A W := ⟨h.os, h.tape, h.output, by rw [h.size]; exact Nat.le_refl _, fun k hk => h.block k (.inl hk)⟩
theorem Lp.mid {b0 lo hi : Nat} {A W : World} (h : Lp b0 lo A W) : Mid lo hi A W := ⟨by rw [h.size]; exact Nat.le_refl _, fun k hk _ => h.block k (.inr hk)⟩
/-- a range within a round that may be left by a break: the way behind it is walked once -/
theorem wpIn_rangeNx_brk {n : Nat} {P : Program} {α : Type} {g : Operand} {ps : Array Tmp} {assign body : Code} {Q : Exit → Act → World → Prop} {a : Act} {w : World} {l₀ : Nat} {r₀ : Loop} (hl₀ : w.heap[l₀]? = some (.loop r₀))
    (h1 : 1 ≤ n) {gf : Nat} {lb : Array Value} (hg : a.eval g = .func (.func gf) #[] lb) (eg : ∀ args w, (callFunc gf args).run P w = .ok (.enter gf args) w)
    {encs : α → Array Value} {V : Nat → List α → α → World → Prop} {Kp : World → World → Prop} {S Sp : List α → Prop} {w0 : World} (hseq : SeqN Fence.wide (n - 1) P gf lb encs V Kp S Sp (w.heap.size + 1) w0)
    (hKt : ∀ {A B C : World}, Kp A B → Kp B C → Kp A C) (hKb : ∀ (W : World) (l : Nat) (o o' : Obj), w.heap.size ≤ l → W.heap[l]? = some o → o.isCells = false → o.isWalk = false → Kp W (W.putObj l o')) (hKa : ∀ (W : World) (o : Obj), Kp w0 W → Kp w0 (W.alloc o)) (hb0 : Kp w0 w) (hps : ∀ x, (encs x).size = ps.size)
    (I : List α → World → Prop) (E : World → Prop) (id : Nat) (hI : OwnFrom w.heap.size I) (hI2 : ∀ s A B, I s A → A.grownBy B (some (w.heap.size + 1)) → I s B) (hE : OwnFrom w.heap.size (fun (_ : Unit) W => E W)) (hV : ∀ m pre, OwnFrom w.heap.size (V m pre)) (h0 : I [] w) (a₁ : α → Act)
    (hassign : ∀ (l : Nat) (x : α) (W : World) (K : Act → World → Prop), K (a₁ x) W →
      assign.wpIn ((Fence.wide.inRound l₀).inRound l) (n - 1 - 1) P (Exit.then K (fun _ _ _ => False)) { tmps := (ps.zip (encs x)).foldl (fun t (p, v) => t.setIfInBounds p v) a.tmps, defers := [] } W)
    (hbody : ∀ (l : Nat) (pre : List α) (x : α) (S0 : Nat) (W : World), I pre W → w.heap.size + 1 < W.heap.size → w.heap.size + 1 ≤ S0 → V S0 pre x W → body.wpIn ((Fence.wide.inRound l₀).inRound l) (n - 1 - 1) P (ownPostK (fun A B => Kp A B ∧ B.heap[w.heap.size + 1]? = A.heap[w.heap.size + 1]?) I (fun c _ W => c = .exit id ∧ E W) (pre ++ [x]) W) (a₁ x) W)
    (hdone : ∀ (xs : List α) (W : World), S xs → I xs W → E W) (hQ : ∀ a w, Q .normal a w → Q (.exit id) a w)
    (htail : ∀ (W : World), E W → Q .normal a W) :
    (Code.rangeFunc g ps assign body).wpIn (Fence.wide.inRound l₀) n P Q a w :=
  wpIn_rangeNx hl₀ h1 hg eg hseq hKt hKb hKa hb0 hps I (fun c _ W => c = .exit id ∧ E W) hI hI2 (fun c s A B row hs hg hr => ⟨hs.1, hE () A B row hs.2 hg hr⟩) hV h0 a₁ hassign hbody
    (fun xs W hS hI => htail W (hdone xs W hS hI))
    (fun c pre W hSp hIx => by
      obtain ⟨rfl, hE'⟩ := hIx
      exact wpIn_exit (hQ _ _ (htail W hE')))

end Go.Proofs.YtfklgfdkpmfdnaaDoor
