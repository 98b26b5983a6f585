/-
  pace.Plan, walked.
  KEEP: putObj alloc same block size os tape output mono lt own new keep conf rest clr below grown
-/
import Derived.Test.YthmejmnbbbiemaaPcT
import Derived.Deep.CutRange
import Derived.Deep.Cut
set_option linter.unusedSimpArgs false
set_option linter.unusedVariables false
namespace Go.Proofs.Ythmejmnbbbiemaa
open Go Go.RowKit Go.Shelf

attribute [local go_sem] Oper.semAt_some

/-- Plan's boxes: the config B, the conflicts B + 1; the Pace C, s; its functions' box D, the Beats D + 1, the count D + 2 -/
structure Pl (w : World) (D s : Nat) (b f g : Int) (N : Int) (x : Ps) (v : Value) (L : List (Int × Bool)) (W : World) : Prop where
  cb : ∃ d p u, Cb W w.heap.size b f g d p u
  nb : Bo W (w.heap.size + 1) 3 (.int .i64 N)
  pz : Pz W (w.heap.size + 2) s b f g x
  sD : s + 7 ≤ D
  rb : Rb W D (fConf s) (fRest s) (fClr s)
  bb : Bo W (D + 1) 25 v
  kb : Bo W (D + 2) 3 (.int .i64 x.k)
  ow : OwnB (D + 3) W v L
  bel : Below w.heap.size w W
theorem Pl.size {w : World} {D s : Nat} {b f g N : Int} {x : Ps} {v : Value} {L : List (Int × Bool)} {W : World} (h : Pl w D s b f g N x v L W) : D + 3 ≤ W.heap.size ∧ w.heap.size + 2 < s := ⟨by have := h.kb.lt; omega, h.pz.lt⟩
theorem Cb.grown {W W' : World} {C : Nat} {b f g : Int} {d : Nat} {p u : Int} {row : Option Nat} (hc : Cb W C b f g d p u) (hg : W.grownBy W' row) (hr : ∀ r, row = some r → ∃ o : Obj, W.heap[r]? = some o ∧ o.isCells = false) : Cb W' C b f g d p u := by
  refine (hg.block C hc.lt ?_).trans hc
  intro e
  obtain ⟨o, ho, hcc⟩ := hr C e.symm
  unfold Cb at hc
  rw [hc] at ho
  cases ho
  simp [Obj.isCells] at hcc
theorem OwnB.grown {base : Nat} {W W' : World} {v : Value} {L : List (Int × Bool)} {row : Option Nat} (h : OwnB base W v L) (hg : W.grownBy W' row) (hr : ∀ r, row = some r → ∃ o : Obj, W.heap[r]? = some o ∧ o.isCells = false) : OwnB base W' v L := h.keep fun g hgg => by
  refine hg.block g (h.lt g hgg).2 ?_
  intro e
  obtain ⟨o, ho, hc⟩ := hr g e.symm
  obtain ⟨cur, hcur⟩ := h.cellsAt hgg
  rw [hcur] at ho
  cases ho
  simp [Obj.isCells] at hc
theorem Pl.grown {w : World} {D s : Nat} {b f g N : Int} {x : Ps} {v : Value} {L : List (Int × Bool)} {W W' : World} {row : Option Nat} (h : Pl w D s b f g N x v L W) (hg : W.grownBy W' row) (hr : ∀ r, row = some r → w.heap.size ≤ r ∧ ∃ o : Obj, W.heap[r]? = some o ∧ o.isCells = false) : Pl w D s b f g N x v L W' := by
  have hr2 : ∀ r, row = some r → ∃ o : Obj, W.heap[r]? = some o ∧ o.isCells = false := fun r e => (hr r e).2
  obtain ⟨d, p, u, hc⟩ := h.cb
  exact ⟨⟨d, p, u, hc.grown hg hr2⟩, h.nb.grown hg hr2, h.pz.grown hg hr2, h.sD, h.rb.grown hg hr2, h.bb.grown hg hr2, h.kb.grown hg hr2, h.ow.grown hg hr2, h.bel.grown hg (by have := h.bel.size; omega) (fun r e => (hr r e).1)⟩
/-- the pace went on, the rest as it was -/
theorem Pl.mp {w : World} {D s : Nat} {b f g N : Int} {x y : Ps} {v : Value} {L : List (Int × Bool)} {W W' : World} (h : Pl w D s b f g N x v L W) (hm : Mp s 7 W W') (hz : Pz W' (w.heap.size + 2) s b f g y) :
    (∃ d p u, Cb W' w.heap.size b f g d p u) ∧ Bo W' (w.heap.size + 1) 3 (.int .i64 N) ∧ Rb W' D (fConf s) (fRest s) (fClr s) ∧ Bo W' (D + 1) 25 v ∧ Bo W' (D + 2) 3 (.int .i64 x.k) ∧ OwnB (D + 3) W' v L ∧ Below w.heap.size w W' := by
  have hs := h.size
  have hD := h.sD
  obtain ⟨d, p, u, hc⟩ := h.cb
  exact ⟨⟨d, p, u, hc.mp hm (by omega)⟩, h.nb.mp hm (by omega), h.rb.mp hm (by omega), h.bb.mp hm (by omega), h.kb.mp hm (by omega), h.ow.keep (fun q hq => hm.block q (h.ow.lt q hq).2 (by have := (h.ow.lt q hq).1; omega)), hm.low h.bel h.bel.size (by omega)⟩

theorem plan_bad (b f g : Int) (d : Nat) (p u n : Int) (w : World) (hf : fmC b f g d p = false) :
    Calls Try.prog 4 #[.agg #[.int .i64 b, .int .i64 f, .int .i64 g, .float .f64 d, .int .i64 p, .int .i64 u], .int .i64 n] w fun e w' => e = .returned (.tuple #[.slice none 0 0, .int .i64 1]) ∧ Below w.heap.size w w' := by
  have HM : Hid (∀ W, Calls Try.prog 5 #[.agg #[.int .i64 b, .int .i64 f, .int .i64 g, .float .f64 d, .int .i64 p, .int .i64 u]] W fun e w' => e = .returned (.tuple #[.agg #[.nilFunc, .nilFunc, .nilFunc], .int .i64 1]) ∧ Below W.heap.size W w') := fun W => make_no b f g d p u W hf
  clear hf
  go_enter Try.func4, Try.ntmps4
  go_wp2_with (go_at_call 5; refine (HM.out _).mono ?_; rintro e w2 ⟨rfl, bel⟩)
  go_returns
  exact ⟨rfl, (((below_new _ _).next (below_new _ _) (Nat.le_refl _)).next bel (Nat.le_refl _)).next (below_new _ _) (Nat.le_refl _)⟩
/-- what lies behind Make in Plan -/
structure P0 (w : World) (s : Nat) (b f g : Int) (d : Nat) (p u : Int) (n : Int) (W : World) : Prop where
  cb : Cb W w.heap.size b f g d p u
  nb : Bo W (w.heap.size + 1) 3 (.int .i64 n)
  pz : Pz W (w.heap.size + 2) s b f g ps0
  bel : Below w.heap.size w W
theorem P0.mk' {w w2 : World} {s : Nat} {b f g : Int} {d : Nat} {p u n : Int} (hz : Pz w2 ((w.alloc (.cells #[.int .i64 b, .int .i64 f, .int .i64 g, .float .f64 d, .int .i64 p, .int .i64 u] 24)).alloc (.cells #[.int .i64 n] 3)).heap.size s b f g ps0) (bel : Below ((w.alloc (.cells #[.int .i64 b, .int .i64 f, .int .i64 g, .float .f64 d, .int .i64 p, .int .i64 u] 24)).alloc (.cells #[.int .i64 n] 3)).heap.size ((w.alloc (.cells #[.int .i64 b, .int .i64 f, .int .i64 g, .float .f64 d, .int .i64 p, .int .i64 u] 24)).alloc (.cells #[.int .i64 n] 3)) w2) : P0 w s b f g d p u n w2 := by
  have b1 := Cb.new w b f g d p u
  have s1 : (w.alloc (.cells #[.int .i64 b, .int .i64 f, .int .i64 g, .float .f64 d, .int .i64 p, .int .i64 u] 24)).heap.size = w.heap.size + 1 := by simp
  have e1 := below_new w (.cells #[.int .i64 b, .int .i64 f, .int .i64 g, .float .f64 d, .int .i64 p, .int .i64 u] 24)
  generalize w.alloc (.cells #[.int .i64 b, .int .i64 f, .int .i64 g, .float .f64 d, .int .i64 p, .int .i64 u] 24) = W1 at *
  have b2 := Bo.new W1 3 (.int .i64 n)
  have e2 := below_new W1 (.cells #[.int .i64 n] 3)
  have s2 : (W1.alloc (.cells #[.int .i64 n] 3)).heap.size = w.heap.size + 2 := by simp [s1]
  generalize W1.alloc (.cells #[.int .i64 n] 3) = W2 at *
  rw [s1] at b2
  rw [s2] at hz
  have c2 := b1.on e2 b1.lt
  exact ⟨c2.on bel c2.lt, b2.below bel, hz, (e1.next e2 (Nat.le_refl _)).next bel (Nat.le_refl _)⟩
theorem plan_far (b f g : Int) (d : Nat) (p u n : Int) (w : World) (hf : fmC b f g d p = true) (hn : n < 0 ∨ 1048576 < n) :
    Calls Try.prog 4 #[.agg #[.int .i64 b, .int .i64 f, .int .i64 g, .float .f64 d, .int .i64 p, .int .i64 u], .int .i64 n] w fun e w' => e = .returned (.tuple #[.slice none 0 0, .int .i64 2]) ∧ Below w.heap.size w w' := by
  have HM : Hid (∀ W, Calls Try.prog 5 #[.agg #[.int .i64 b, .int .i64 f, .int .i64 g, .float .f64 d, .int .i64 p, .int .i64 u]] W fun e w' => ∃ s, e = .returned (.tuple #[.agg #[.func (.func 13) #[] #[.pointer (some ⟨s, 0, none⟩)], .func (.func 12) #[] #[.pointer (some ⟨s, 0, none⟩), .pointer (some ⟨s + 3, 0, none⟩), .pointer (some ⟨s + 1, 0, none⟩), .pointer (some ⟨s + 2, 0, none⟩)], .func (.func 12) #[] #[.pointer (some ⟨s, 0, none⟩), .pointer (some ⟨s + 6, 0, none⟩), .pointer (some ⟨s + 4, 0, none⟩), .pointer (some ⟨s + 5, 0, none⟩)]], .int .i64 0]) ∧ Pz w' W.heap.size s b f g ps0 ∧ Below W.heap.size W w') := fun W => make_yes b f g d p u W hf
  clear hf
  go_enter Try.func4, Try.ntmps4
  go_upto_region 2 with (go_at_call 5; refine (HM.out _).mono ?_; rintro e w2 ⟨s, rfl, hz, bel⟩)
  have h0 := P0.mk' hz bel
  have HB : Hid (Below w.heap.size w (w2.alloc (.cells #[.func (.func 13) #[] #[.pointer (some ⟨s, 0, none⟩)], .func (.func 12) #[] #[.pointer (some ⟨s, 0, none⟩), .pointer (some ⟨s + 3, 0, none⟩), .pointer (some ⟨s + 1, 0, none⟩), .pointer (some ⟨s + 2, 0, none⟩)], .func (.func 12) #[] #[.pointer (some ⟨s, 0, none⟩), .pointer (some ⟨s + 6, 0, none⟩), .pointer (some ⟨s + 4, 0, none⟩), .pointer (some ⟨s + 5, 0, none⟩)]] 31))) := h0.bel.next (below_new _ _) (Nat.le_refl _)
  have c1 := (h0.nb.below (below_new w2 (.cells #[.func (.func 13) #[] #[.pointer (some ⟨s, 0, none⟩)], .func (.func 12) #[] #[.pointer (some ⟨s, 0, none⟩), .pointer (some ⟨s + 3, 0, none⟩), .pointer (some ⟨s + 1, 0, none⟩), .pointer (some ⟨s + 2, 0, none⟩)], .func (.func 12) #[] #[.pointer (some ⟨s, 0, none⟩), .pointer (some ⟨s + 6, 0, none⟩), .pointer (some ⟨s + 4, 0, none⟩), .pointer (some ⟨s + 5, 0, none⟩)]] 31))).c
  clear hz bel h0 HM
  generalize w2.alloc (.cells #[.func (.func 13) #[] #[.pointer (some ⟨s, 0, none⟩)], .func (.func 12) #[] #[.pointer (some ⟨s, 0, none⟩), .pointer (some ⟨s + 3, 0, none⟩), .pointer (some ⟨s + 1, 0, none⟩), .pointer (some ⟨s + 2, 0, none⟩)], .func (.func 12) #[] #[.pointer (some ⟨s, 0, none⟩), .pointer (some ⟨s + 6, 0, none⟩), .pointer (some ⟨s + 4, 0, none⟩), .pointer (some ⟨s + 5, 0, none⟩)]] 31) = W3 at *
  rcases hn with hn | hn
  · go_wp2
    go_returns
    exact ⟨rfl, HB.out⟩
  · have hn0 : 0 ≤ n := by omega
    go_wp2
    go_returns
    exact ⟨rfl, HB.out⟩

theorem Pl.start {w w2 : World} {s : Nat} {b f g : Int} {d : Nat} {p u n : Int} (h : P0 w s b f g d p u n w2) :
    Pl w w2.heap.size s b f g n ps0 (.slice none 0 0) [] (((w2.alloc (.cells #[.func (.func 13) #[] #[.pointer (some ⟨s, 0, none⟩)], .func (.func 12) #[] #[.pointer (some ⟨s, 0, none⟩), .pointer (some ⟨s + 3, 0, none⟩), .pointer (some ⟨s + 1, 0, none⟩), .pointer (some ⟨s + 2, 0, none⟩)], .func (.func 12) #[] #[.pointer (some ⟨s, 0, none⟩), .pointer (some ⟨s + 6, 0, none⟩), .pointer (some ⟨s + 4, 0, none⟩), .pointer (some ⟨s + 5, 0, none⟩)]] 31)).alloc (.cells #[.slice none 0 0] 25)).alloc (.cells #[.int .i64 0] 3)) := by
  have b1 : Rb (w2.alloc (.cells #[.func (.func 13) #[] #[.pointer (some ⟨s, 0, none⟩)], .func (.func 12) #[] #[.pointer (some ⟨s, 0, none⟩), .pointer (some ⟨s + 3, 0, none⟩), .pointer (some ⟨s + 1, 0, none⟩), .pointer (some ⟨s + 2, 0, none⟩)], .func (.func 12) #[] #[.pointer (some ⟨s, 0, none⟩), .pointer (some ⟨s + 6, 0, none⟩), .pointer (some ⟨s + 4, 0, none⟩), .pointer (some ⟨s + 5, 0, none⟩)]] 31)) w2.heap.size (fConf s) (fRest s) (fClr s) := Rb.new w2 (fConf s) (fRest s) (fClr s)
  have s1 : (w2.alloc (.cells #[.func (.func 13) #[] #[.pointer (some ⟨s, 0, none⟩)], .func (.func 12) #[] #[.pointer (some ⟨s, 0, none⟩), .pointer (some ⟨s + 3, 0, none⟩), .pointer (some ⟨s + 1, 0, none⟩), .pointer (some ⟨s + 2, 0, none⟩)], .func (.func 12) #[] #[.pointer (some ⟨s, 0, none⟩), .pointer (some ⟨s + 6, 0, none⟩), .pointer (some ⟨s + 4, 0, none⟩), .pointer (some ⟨s + 5, 0, none⟩)]] 31)).heap.size = w2.heap.size + 1 := by simp
  have e1 := below_new w2 (.cells #[.func (.func 13) #[] #[.pointer (some ⟨s, 0, none⟩)], .func (.func 12) #[] #[.pointer (some ⟨s, 0, none⟩), .pointer (some ⟨s + 3, 0, none⟩), .pointer (some ⟨s + 1, 0, none⟩), .pointer (some ⟨s + 2, 0, none⟩)], .func (.func 12) #[] #[.pointer (some ⟨s, 0, none⟩), .pointer (some ⟨s + 6, 0, none⟩), .pointer (some ⟨s + 4, 0, none⟩), .pointer (some ⟨s + 5, 0, none⟩)]] 31)
  generalize w2.alloc (.cells #[.func (.func 13) #[] #[.pointer (some ⟨s, 0, none⟩)], .func (.func 12) #[] #[.pointer (some ⟨s, 0, none⟩), .pointer (some ⟨s + 3, 0, none⟩), .pointer (some ⟨s + 1, 0, none⟩), .pointer (some ⟨s + 2, 0, none⟩)], .func (.func 12) #[] #[.pointer (some ⟨s, 0, none⟩), .pointer (some ⟨s + 6, 0, none⟩), .pointer (some ⟨s + 4, 0, none⟩), .pointer (some ⟨s + 5, 0, none⟩)]] 31) = W1 at *
  have b2 := Bo.new W1 25 (.slice none 0 0)
  have s2 : (W1.alloc (.cells #[.slice none 0 0] 25)).heap.size = w2.heap.size + 2 := by simp [s1]
  have e2 := below_new W1 (.cells #[.slice none 0 0] 25)
  generalize W1.alloc (.cells #[.slice none 0 0] 25) = W2 at *
  have b3 := Bo.new W2 3 (.int .i64 0)
  have e3 := below_new W2 (.cells #[.int .i64 0] 3)
  rw [s1] at b2
  rw [s2] at b3
  generalize W2.alloc (.cells #[.int .i64 0] 3) = W3 at *
  have eA : Below w2.heap.size w2 W3 := (e1.next e2 (Nat.le_refl _)).next e3 (Nat.le_refl _)
  exact ⟨⟨d, p, u, h.cb.on eA h.cb.lt⟩, h.nb.below eA, h.pz.below eA, h.pz.size, (b1.below e2).below e3, b2.below e3, b3, OwnB.nil _ _, h.bel.next eA (Nat.le_refl _)⟩

/-- append of Beats, under a name of its own (its run is handed in as a fact) -/
def appAct (args : Array Value) : Sem Value := Builtin.append_ #[25, 25] 25 args
theorem append_alias (args : Array Value) : Builtin.append_ #[25, 25] 25 args = appAct args := rfl
attribute [local go_sem ↓] append_alias
/-- behind a Beat's append: the row, and the box of the Beats as it was -/
structure Bt7 (D : Nat) (L : List (Int × Bool)) (K : Int) (c : Bool) (v v' : Value) (w6 w7 : World) : Prop where
  ow : OwnB (D + 3) w7 v' (L ++ [(K, c)])
  gr : (w6.alloc (.cells #[.int .i64 K, .bool c] 44)).grownBy w7 v.ownBlock
  nw : v'.ownBlock = v.ownBlock ∨ v'.ownBlock = some (w6.heap.size + 1)
theorem Bt7.mk' {w6 : World} {D : Nat} {K : Int} {c : Bool} {v : Value} {L : List (Int × Bool)} (h : OwnB (D + 3) w6 v L) (hb : D + 3 ≤ w6.heap.size) (hL : L.length ≤ 1099511627776) (hbb : Bo w6 (D + 1) 25 v) :
    ∃ a' c' w7, (appAct #[v, .slice (some ⟨w6.heap.size, 0, none⟩) 1 1]).run Try.prog (w6.alloc (.cells #[.int .i64 K, .bool c] 44)) = .ok (.slice a' (L.length + 1) c') w7 ∧
      w7.cell? ⟨D + 1, 0, none⟩ = some v ∧ w7.frozen? ⟨D + 1, 0, none⟩ = false ∧ Hid (Bt7 D L K c v (.slice a' (L.length + 1) c') w6 w7) := by
  have hb2 := below_new w6 (.cells #[.int .i64 K, .bool c] 44)
  obtain ⟨v', w7, h1, h2, h3, h4⟩ := beat_app _ (D + 3) v L w6.heap.size K c (h.below hb2) (by have := hb2.size; omega) hL (heap_new w6 _)
  rw [World.size_alloc] at h4
  obtain ⟨a', c', hf⟩ := h2.form
  rw [List.length_append] at hf
  have hf' : v' = .slice a' (L.length + 1) c' := hf
  subst hf'
  have hlt := hbb.lt
  have hb7 : Bo w7 (D + 1) 25 v := (h3.block (D + 1) (by have := hb2.size; omega) (fun e => by have := (h.lt _ e.symm).1; omega)).trans ((Below.heap_alloc _ _ _ hlt).trans hbb)
  exact ⟨a', c', w7, h1, hb7.c, hb7.f, h2, h3, h4⟩

theorem Pl.fin {w w6 w7 : World} {D s : Nat} {b f g n K : Int} {c : Bool} {y : Ps} {v v' : Value} {L : List (Int × Bool)} (h : Pl w D s b f g n y v L w6) (h7 : Bt7 D L K c v v' w6 w7) :
    Pl w D s b f g n y v' (L ++ [(K, c)]) (w7.setCell ⟨D + 1, 0, none⟩ v') ∧ KeepsOthers w6 (w7.setCell ⟨D + 1, 0, none⟩ v') := by
  have hs := h.size
  have hsD := h.sD
  have hbl : ∀ q, q < w6.heap.size → (∀ r, v.ownBlock = some r → q ≠ r) → w7.heap[q]? = w6.heap[q]? := fun q hq hne =>
    (h7.gr.block q (by rw [World.size_alloc]; omega) (fun e => hne q e.symm rfl)).trans (Below.heap_alloc _ _ _ hq)
  have hlow : ∀ q, q < D + 3 → w7.heap[q]? = w6.heap[q]? := fun q hq => hbl q (by omega) (fun r hr e => by have := (h.ow.lt r hr).1; omega)
  have hset : ∀ q, q ≠ D + 1 → q < D + 3 → (w7.setCell ⟨D + 1, 0, none⟩ v').heap[q]? = w6.heap[q]? := fun q hq hl => (Below.heap_setCell _ _ _ _ hq).trans (hlow q hl)
  have hz7 : Below w.heap.size w w7 := by
    have h6 : Below w.heap.size w (w6.alloc (.cells #[.int .i64 K, .bool c] 44)) := h.bel.next (below_new _ _) (Nat.le_refl _)
    exact h6.grown h7.gr h6.size (fun r e => by have := (h.ow.lt r e).1; omega)
  have hlt7 : D + 3 ≤ w7.heap.size := by have := h7.gr.size; rw [World.size_alloc] at this; omega
  refine ⟨⟨?_, (hset _ (by omega) (by omega)).trans h.nb, ?_, h.sD, (hset _ (by omega) (by omega)).trans h.rb, ?_, (hset _ (by omega) (by omega)).trans h.kb, ?_, hz7.setCell (by show w.heap.size ≤ D + 1; omega) _⟩, ?_⟩
  · obtain ⟨d, p, u, hc⟩ := h.cb
    exact ⟨d, p, u, (hset _ (by omega) (by omega)).trans hc⟩
  · obtain ⟨d, p, u, hc⟩ := h.pz.cb
    have q := h.pz
    exact ⟨⟨d, p, u, (hset _ (by omega) (by omega)).trans hc⟩, q.lt, (hset _ (by omega) (by omega)).trans q.kb, (hset _ (by omega) (by omega)).trans q.w1, (hset _ (by omega) (by omega)).trans q.t1, (hset _ (by omega) (by omega)).trans q.l1, (hset _ (by omega) (by omega)).trans q.w2, (hset _ (by omega) (by omega)).trans q.t2, (hset _ (by omega) (by omega)).trans q.l2⟩
  · have hb : Bo w7 (D + 1) 25 v := (hlow _ (by omega)).trans h.bb
    exact hb.set _
  · exact h7.ow.keep (fun q hq => Below.heap_setCell _ _ _ _ (by show q ≠ D + 1; have := (h7.ow.lt q hq).1; omega))
  · refine KeepsOthers.trans ?_ (KeepsOthers.setCell _ _ _)
    refine (keeps_bel (below_new w6 _)).trans (KeepsOthers.of_grownBy h7.gr ?_)
    intro q o hq ho
    obtain ⟨cur, hcur⟩ := h.ow.cellsAt hq
    have := (below_new w6 (.cells #[.int .i64 K, .bool c] 44)).block q (h.ow.lt q hq).2
    rw [this, hcur] at ho
    cases ho
    rfl

/-- between two rounds -/
structure PlI (w : World) (D s : Nat) (b f g n : Int) (i : Nat) (W : World) (k t l : Int) (v : Value) (L : List (Int × Bool)) : Prop where
  h : Pl w D s b f g n ⟨k, 0, 0, t, l⟩ v L W
  len : L.length = i
  all : L ++ pl b f g n (n.toNat + 1 - i) i k t l = plF b f g n
  pn : Pn b f g ⟨k, 0, 0, t, l⟩
  ik : (i : Int) ≤ k
  kn : k ≤ n
theorem PlI.next {w W W' : World} {D s : Nat} {b f g n : Int} {i : Nat} {k t l : Int} {v v' : Value} {L : List (Int × Bool)} {y : Int} {x : Ps} (h : PlI w D s b f g n i W k t l v L) (hy : b * (lub (i + 1) : Int) = y) (hy1 : 1 ≤ y) (hlt : y ≤ n - k) (hx : x = ⟨k + y, 0, 0, t, l⟩) (hpn : Pn b f g x)
    (hS : Pl w D s b f g n (x.clr f g) v' (L ++ [(k + y, x.c f g)]) W') : ∃ k' t' l' v' L', PlI w D s b f g n (i + 1) W' k' t' l' v' L' := by
  have hn : n.toNat + 1 - i = (n.toNat - i) + 1 := by have := h.ik; omega
  have hn2 : n.toNat + 1 - (i + 1) = n.toNat - i := by omega
  have hall := h.all
  rw [hn] at hall
  have hik := h.ik
  have hlen := h.len
  have hpn2 := hpn.clr
  cases hc : x.c f g
  · have hc' : ¬ f + t * g ≤ k + b * (lub (i + 1) : Int) - l := by
      rw [hx] at hc
      have : ¬ (Ps.w2 ⟨k + y, 0, 0, t, l⟩ f g ≤ (k + y) - l) := of_decide_eq_false hc
      rw [hy]; exact this
    rw [pl_no (by rw [hy]; omega) hc', hy] at hall
    rw [Ps.clr_no hc] at hS hpn2
    rw [hc] at hS
    subst hx
    refine ⟨k + y, t, l, v', _, hS, by simp [hlen], ?_, hpn2, by omega, by omega⟩
    rw [hn2, List.append_assoc]
    exact hall
  · have hc' : f + t * g ≤ k + b * (lub (i + 1) : Int) - l := by
      rw [hx] at hc
      have : (Ps.w2 ⟨k + y, 0, 0, t, l⟩ f g ≤ (k + y) - l) := of_decide_eq_true hc
      rw [hy]; exact this
    rw [pl_yes (by rw [hy]; omega) hc', hy] at hall
    rw [Ps.clr_yes hc] at hS hpn2
    rw [hc] at hS
    subst hx
    refine ⟨k + y, t + 1, k + y, v', _, hS, by simp [hlen], ?_, hpn2, by omega, by omega⟩
    rw [hn2, List.append_assoc]
    exact hall
def PlJ (w : World) (D s : Nat) (b f g n : Int) (i : Nat) (W : World) : Prop := ∃ k t l v L, PlI w D s b f g n i W k t l v L
/-- behind the last round -/
def PlX (w : World) (D s : Nat) (b f g n : Int) (W : World) : Prop := ∃ x v, Pl w D s b f g n x v (plF b f g n) W
theorem lub_b {b : Int} {i : Nat} (hb1 : 1 ≤ b) (hb2 : b ≤ 1048576) (hi : i ≤ 1048576) : 1 ≤ b * (lub (i + 1) : Int) ∧ b * (lub (i + 1) : Int) ≤ 1099512676352 := by
  have h1 := lub_pos (i := i + 1) (by omega)
  have h2 := lub_le (i + 1)
  have a1 : (1 : Int) * 1 ≤ b * (lub (i + 1) : Int) := Int.mul_le_mul (by omega) (by omega) (by omega) (by omega)
  have a2 : b * (lub (i + 1) : Int) ≤ 1048576 * 1048577 := Int.mul_le_mul (by omega) (by omega) (by omega) (by omega)
  omega

set_option maxRecDepth 100000 in
set_option maxHeartbeats 6400000 in
theorem plan_yes (b f g : Int) (d : Nat) (p u n : Int) (w : World) (hf : fmC b f g d p = true) (hn0 : 0 ≤ n) (hn : n ≤ 1048576) :
    Calls Try.prog 4 #[.agg #[.int .i64 b, .int .i64 f, .int .i64 g, .float .f64 d, .int .i64 p, .int .i64 u], .int .i64 n] w fun e w' => ∃ v, e = .returned (.tuple #[v, .int .i64 0]) ∧ OwnB w.heap.size w' v (plF b f g n) ∧ Below w.heap.size w w' := by
  have HM : Hid (∀ W, Calls Try.prog 5 #[.agg #[.int .i64 b, .int .i64 f, .int .i64 g, .float .f64 d, .int .i64 p, .int .i64 u]] W fun e w' => ∃ s, e = .returned (.tuple #[.agg #[.func (.func 13) #[] #[.pointer (some ⟨s, 0, none⟩)], .func (.func 12) #[] #[.pointer (some ⟨s, 0, none⟩), .pointer (some ⟨s + 3, 0, none⟩), .pointer (some ⟨s + 1, 0, none⟩), .pointer (some ⟨s + 2, 0, none⟩)], .func (.func 12) #[] #[.pointer (some ⟨s, 0, none⟩), .pointer (some ⟨s + 6, 0, none⟩), .pointer (some ⟨s + 4, 0, none⟩), .pointer (some ⟨s + 5, 0, none⟩)]], .int .i64 0]) ∧ Pz w' W.heap.size s b f g ps0 ∧ Below W.heap.size W w') := fun W => make_yes b f g d p u W hf
  have hb : (1 ≤ b ∧ b ≤ 1048576) ∧ (1 ≤ f ∧ f ≤ 1048576) ∧ (1 ≤ g ∧ g ≤ 1048576) := by
    unfold fmC at hf
    simp only [Bool.and_eq_true] at hf
    exact ⟨cnB_true.1 hf.1.1.1.1, cnB_true.1 hf.1.1.1.2, cnB_true.1 hf.1.1.2⟩
  obtain ⟨⟨hb1, hb2⟩, ⟨hf1, hf2⟩, hg1, hg2⟩ := hb
  clear hf
  refine calls_marks13 12 Try.func4 rfl ?_
  simp only [Try.ntmps4, List.size_toArray, List.length_cons, List.length_nil, Nat.reduceAdd, Nat.reduceSub, Array.replicate_succ, Array.replicate_zero, List.push_toArray, List.append_toArray, List.nil_append, List.cons_append]
  go_upto_region 2 with (go_at_call 5; refine (HM.out _).mono ?_; rintro e w2 ⟨s, rfl, hz, bel⟩)
  have h0 := P0.mk' hz bel
  have c1 := (h0.nb.below (below_new w2 (.cells #[.func (.func 13) #[] #[.pointer (some ⟨s, 0, none⟩)], .func (.func 12) #[] #[.pointer (some ⟨s, 0, none⟩), .pointer (some ⟨s + 3, 0, none⟩), .pointer (some ⟨s + 1, 0, none⟩), .pointer (some ⟨s + 2, 0, none⟩)], .func (.func 12) #[] #[.pointer (some ⟨s, 0, none⟩), .pointer (some ⟨s + 6, 0, none⟩), .pointer (some ⟨s + 4, 0, none⟩), .pointer (some ⟨s + 5, 0, none⟩)]] 31))).c
  have hlt : w.heap.size + 1 < w2.heap.size := h0.nb.lt
  have H0 := Pl.start h0
  have HP0 : Hid (Pl w w2.heap.size s b f g n ps0 (.slice none 0 0) [] (((w2.alloc (.cells #[.func (.func 13) #[] #[.pointer (some ⟨s, 0, none⟩)], .func (.func 12) #[] #[.pointer (some ⟨s, 0, none⟩), .pointer (some ⟨s + 3, 0, none⟩), .pointer (some ⟨s + 1, 0, none⟩), .pointer (some ⟨s + 2, 0, none⟩)], .func (.func 12) #[] #[.pointer (some ⟨s, 0, none⟩), .pointer (some ⟨s + 6, 0, none⟩), .pointer (some ⟨s + 4, 0, none⟩), .pointer (some ⟨s + 5, 0, none⟩)]] 31)).alloc (.cells #[.slice none 0 0] 25)).alloc (.cells #[.int .i64 0] 3))) := H0
  clear hz bel h0 HM H0
  go_wp2_with (go_at_call 10; refine (seq_any _).mono ?_; rintro e w' ⟨rfl, rfl⟩)
  clear c1
  generalize ((w2.alloc (.cells #[.func (.func 13) #[] #[.pointer (some ⟨s, 0, none⟩)], .func (.func 12) #[] #[.pointer (some ⟨s, 0, none⟩), .pointer (some ⟨s + 3, 0, none⟩), .pointer (some ⟨s + 1, 0, none⟩), .pointer (some ⟨s + 2, 0, none⟩)], .func (.func 12) #[] #[.pointer (some ⟨s, 0, none⟩), .pointer (some ⟨s + 6, 0, none⟩), .pointer (some ⟨s + 4, 0, none⟩), .pointer (some ⟨s + 5, 0, none⟩)]] 31)).alloc (.cells #[.slice none 0 0] 25)).alloc (.cells #[.int .i64 0] 3) = W0 at *
  generalize w2.heap.size = D at *
  have hs0 := HP0.out.size
  obtain ⟨M, hM⟩ : ∃ M, M = n.toNat + 1 := ⟨_, rfl⟩
  have hI0 : PlJ w D s b f g n 0 W0 := ⟨0, 0, 0, _, [], HP0.out, rfl, rfl, Pn.zero hb1 hb2 hf1 hf2 hg1 hg2, by simp, hn0⟩
  refine (wpIn_wide (n := 12)).1 ?_
  refine' wpIn_rangeI (by omega) rfl M (by omega) (by omega) rfl (PlJ w D s b f g n) (fun c i W => c = .exit 0 ∧ PlX w D s b f g n W)
    (fun q A B row hs hg hr => by
      obtain ⟨k, t, l, v, L, h⟩ := hs
      exact ⟨k, t, l, v, L, h.h.grown hg (fun r e => ⟨by have := (hr r e).1; omega, (hr r e).2⟩), h.len, h.all, h.pn, h.ik, h.kn⟩)
    (fun c q A B row hs hg hr => by
      obtain ⟨x, v, h⟩ := hs.2
      exact ⟨hs.1, x, v, h.grown hg (fun r e => ⟨by have := (hr r e).1; omega, (hr r e).2⟩)⟩)
    hI0 _ ?assign ?body ?stop
  case assign =>
    intro l x W K hK
    gi_wp2
    exact hK
  case stop =>
    rintro Dd c i W hD ⟨rfl, x, v, hS⟩ hK
    have g0 : W.cell? ⟨D + 1, 0, none⟩ = _ := hS.bb.c
    have HS : Hid (Pl w D s b f g n x v (plF b f g n) W) := hS
    clear hS HP0 hI0
    gi_wp2
    go_wp2
    refine ⟨by simp, .inl ⟨_, _, rfl, run_takeDeferred hK, ?_⟩⟩
    have gp := grownBy_putObj' W Dd (.deferred none)
    have hgr := HS.out.grown gp (fun r e => by
      have : r = Dd := by simpa using e.symm
      subst this
      exact ⟨by omega, _, hK, rfl⟩)
    exact ⟨.tuple #[v, .int .i64 0], by simp [results, Try.f4, go_sem], v, rfl, hgr.ow.mono (by omega), hgr.bel⟩
  case body =>
    rintro lp i W hl - hsz ⟨k, t, l, v, L, hS⟩ hi
    have hy := lub_b (i := i) hb1 hb2 (by omega)
    have HX : Hid (∃ m, n.toNat + 1 - i = m + 1 ∧ n.toNat + 1 - (i + 1) = m) := ⟨n.toNat - i, by omega, by omega⟩
    have HS : Hid (PlI w D s b f g n i W k t l v L) := hS
    obtain ⟨dd, pp, uu, hcb⟩ := hS.h.cb
    have g0 := hcb.cells.1
    have g1 := hS.h.nb.c
    have g2 := hS.h.kb.c
    have hk0 : 0 ≤ k := by have := hS.ik; omega
    have hkn := hS.kn
    have hik := hS.ik
    clear hS hcb hI0 HP0
    generalize hyy : b * (lub (i + 1) : Int) = y at *
    have HY : Hid (b * (lub (i + 1) : Int) = y) := hyy
    by_cases hlt : n - k < y
    · gi_wp2
      have hS := HS.out
      obtain ⟨m, hm1, hm2⟩ := HX.out
      have e := hS.all
      rw [hm1, pl_stop (by rw [HY.out]; exact hlt), List.append_nil] at e
      refine ⟨KeepsOthers.refl W, rfl, ⟨k, 0, 0, t, l⟩, v, ?_⟩
      rw [← e]; exact hS.h
    · obtain ⟨yn, rfl⟩ : ∃ yn : Nat, y = yn := ⟨y.toNat, by omega⟩
      have HZ0 : Hid (Pz W (w.heap.size + 2) s b f g ⟨k + ((0 : Nat) : Int), 0, 0, t, l⟩) := by
        have := HS.out.h.pz
        show Pz _ _ _ _ _ _ _
        rw [show k + ((0 : Nat) : Int) = k by simp]; exact this
      gi_wp2
      gi_loopg [38] yn (fun gk c wr => ∃ j : Nat, j + gk = yn ∧ c = .int .i64 j ∧ Hid (Pz wr (w.heap.size + 2) s b f g ⟨k + (j : Int), 0, 0, t, l⟩) ∧ Mp s 7 W wr)
      case atStart => exact ⟨0, by omega, rfl, HZ0, Mp.refl _ _ _⟩
      case round =>
        obtain ⟨j, hj, rfl, HZ, hm⟩ := hrel
        have HJ : Hid (j + gk = yn) := hj
        have hS := HS.out
        have hsz := hS.h.size
        have hsD := hS.h.sD
        have r0 : wr.cell? ⟨D, 0, none⟩ = some (.func (.func 13) #[] #[.pointer (some ⟨s, 0, none⟩)]) := (hS.h.rb.mp hm (by omega)).cells.1
        have HM' : Hid (Mp s 7 W wr) := hm
        by_cases hjl : j < yn
        · have HC : Hid (Calls Try.prog 13 #[.pointer (some ⟨s, 0, none⟩)] wr fun e w' => e = .returned (.tuple #[]) ∧ Hid (Pz w' (w.heap.size + 2) s b f g ⟨k + ((j + 1 : Nat) : Int), 0, 0, t, l⟩) ∧ Hid (Mp s 7 W w')) := by
            refine (conf_any wr (w.heap.size + 2) s b f g _ HZ.out (by show 0 ≤ k + (j : Int); omega) (by show k + (j : Int) < _; omega)).mono ?_
            rintro e w' ⟨h1, h2, h3⟩
            refine ⟨h1, ?_, HM'.out.trans h3⟩
            have e2 : (⟨k + (j : Int), 0, 0, t, l⟩ : Ps).conf = ⟨k + ((j + 1 : Nat) : Int), 0, 0, t, l⟩ := by simp only [Ps.conf, Ps.mk.injEq, and_true]; omega
            rw [e2] at h2
            exact h2
          clear hj hS hm HZ
          gi_wp2_with (refine ⟨trivial, ?_⟩; gi_at_call 13; refine (CallsIn.inRound lp (callsIn_wide.2 HC.out)).mono ?_; rintro e w5 ⟨rfl, HZ5, HM5⟩)
          gi_roundg (gk - 1)
          case measure => have := HJ.out; omega
          case rel => exact ⟨j + 1, by have := HJ.out; omega, by go_num, HZ5, HM5.out⟩
        · have hje : j = yn := by omega
          subst hje
          have g2' : wr.cell? ⟨D + 2, 0, none⟩ = _ := (hS.h.kb.mp hm (by omega)).c
          have f2' : wr.frozen? ⟨D + 2, 0, none⟩ = _ := (hS.h.kb.mp hm (by omega)).f
          have hmp := hS.h.mp hm HZ.out
          have HP5 : Hid (Pl w D s b f g n ⟨k + (j : Int), 0, 0, t, l⟩ v L (wr.setCell ⟨D + 2, 0, none⟩ (.int .i64 (k + (j : Int))))) := by
            obtain ⟨⟨d', p', u', a1⟩, a2, a3, a4, a5, a6, a7⟩ := hmp
            exact ⟨⟨d', p', u', (Below.heap_setCell _ _ _ _ (by show w.heap.size ≠ D + 2; omega)).trans a1⟩, a2.other (by omega) _ _, (HZ.out).mp (Mp.set (s := D + 2) (n := 1) _ _ _ _ (by omega) (by omega)) (by omega) (by omega), hS.h.sD, (Below.heap_setCell _ _ _ _ (by show D ≠ D + 2; omega)).trans a3, a4.other (by omega) _ _, a5.set _, a6.keep (fun q hq => Below.heap_setCell _ _ _ _ (by show q ≠ D + 2; have := (a6.lt q hq).1; omega)), a7.setCell (by show w.heap.size ≤ D + 2; omega) _⟩
          have HK5 : Hid (KeepsOthers W (wr.setCell ⟨D + 2, 0, none⟩ (.int .i64 (k + (j : Int))))) := hm.others.trans (KeepsOthers.setCell _ _ _)
          have hpn : Pn b f g ⟨k + (j : Int), 0, 0, t, l⟩ := by
            have q := hS.pn
            exact ⟨q.b1, q.b2, q.f1, q.f2, q.g1, q.g2, by show k + (j : Int) ≤ _; omega, q.t1, q.t2, q.l1, by show 0 ≤ k + (j : Int); omega, q.l2, by show l ≤ k + (j : Int); have : l ≤ k := q.l2k; omega, q.i1, q.i2⟩
          have hLn : L.length ≤ 1099511627776 := by rw [hS.len]; omega
          clear hj hS hm hmp
          gi_upto_region 17 with fail
          show Code.wpIn _ _ _ _ _ _ (wr.setCell ⟨D + 2, 0, none⟩ (.int .i64 (k + (j : Int))))
          generalize wr.setCell ⟨D + 2, 0, none⟩ (.int .i64 (k + (j : Int))) = W5 at *
          obtain ⟨x5, hx5⟩ : ∃ x5, x5 = (⟨k + (j : Int), 0, 0, t, l⟩ : Ps) := ⟨_, rfl⟩
          have hxk : x5.k = k + (j : Int) := by rw [hx5]
          have HX5 : Hid (x5 = (⟨k + (j : Int), 0, 0, t, l⟩ : Ps)) := hx5
          rw [← hx5] at HP5 hpn
          obtain ⟨av, cv, hv⟩ := HP5.out.ow.form
          obtain ⟨c, hc⟩ : ∃ c, c = x5.c f g := ⟨_, rfl⟩
          have HC5 : Hid (c = x5.c f g) := hc
          have HCl : Hid (Calls Try.prog 12 #[.pointer (some ⟨s, 0, none⟩), .pointer (some ⟨s + 6, 0, none⟩), .pointer (some ⟨s + 4, 0, none⟩), .pointer (some ⟨s + 5, 0, none⟩)] W5.drew fun e w6 => e = .returned (.bool c) ∧ w6.cell? ⟨D + 1, 0, none⟩ = some (.slice av L.length cv) ∧ w6.cell? ⟨D + 1 + 1, 0, none⟩ = some (.int .i64 (k + (j : Int))) ∧ (w6.alloc (.cells #[.int .i64 (k + (j : Int)), .bool c] 44)).cell? ⟨D + 1, 0, none⟩ = some (.slice av L.length cv) ∧ Hid (Pl w D s b f g n (x5.clr f g) v L w6) ∧ Hid (KeepsOthers W w6) ∧ ∃ a' c' w7, (appAct #[.slice av L.length cv, .slice (some ⟨w6.heap.size, 0, none⟩) 1 1]).run Try.prog (w6.alloc (.cells #[.int .i64 (k + (j : Int)), .bool c] 44)) = .ok (.slice a' (L.length + 1) c') w7 ∧
              w7.cell? ⟨D + 1, 0, none⟩ = some (.slice av L.length cv) ∧ w7.frozen? ⟨D + 1, 0, none⟩ = false ∧ Hid (Bt7 D L (k + (j : Int)) c v (.slice a' (L.length + 1) c') w6 w7)) := by
            have hP := HP5.out
            have hP' : Pl w D s b f g n x5 v L W5.drew := hP.grown (grown_bel (below_drew13 W5)) (fun r e => by cases e)
            refine (clr_any W5.drew (w.heap.size + 2) s b f g x5 hP'.pz hpn).mono ?_
            rintro e w6 ⟨h1, h2, h3⟩
            obtain ⟨⟨d', p', u', a1⟩, a2, a3, a4, a5, a6, a7⟩ := hP'.mp h3 h2
            have hk6 : (x5.clr f g).k = x5.k := by unfold Ps.clr; split <;> rfl
            have hP6 : Pl w D s b f g n (x5.clr f g) v L w6 := ⟨⟨d', p', u', a1⟩, a2, h2, hP.sD, a3, a4, by rw [hk6]; exact a5, a6, a7⟩
            refine ⟨by rw [hc]; exact h1, by rw [← hv]; exact a4.c, by rw [← hxk]; exact a5.c, by rw [← hv]; exact (a4.below (below_new _ _)).c, hP6, (HK5.out.trans (keeps_bel (below_drew13 W5))).trans h3.others, by rw [← hv]; exact Bt7.mk' a6 (by have := a5.lt; omega) hLn a4⟩
          have c1 : W5.cell? ⟨D + 1, 0, none⟩ = some (.slice av L.length cv) := by rw [← hv]; exact HP5.out.bb.c
          have c2 : W5.cell? ⟨D + 1 + 1, 0, none⟩ = some (.int .i64 (k + (j : Int))) := by rw [← hxk]; exact HP5.out.kb.c
          have c3 : W5.cell? ⟨D, 2, none⟩ = some (.func (.func 12) #[] #[.pointer (some ⟨s, 0, none⟩), .pointer (some ⟨s + 6, 0, none⟩), .pointer (some ⟨s + 4, 0, none⟩), .pointer (some ⟨s + 5, 0, none⟩)]) := HP5.out.rb.cells.2.2
          have hmix : Try.prog.follows .mixedOrders = true := by kernel_rfl
          have HPn : Hid (Pn b f g x5) := hpn
          clear hpn hc hxk hx5 r0 g0 g1 g2 g2' f2' hjl
          gi_region_with_o (refine ⟨trivial, ?_⟩; gi_at_call 12; refine (CallsIn.inRound lp (callsIn_wide.2 HCl.out)).mono ?_; rintro e w6 ⟨rfl, d1, d2, d3, HP6, HK6, a7, c7, w7, hrun, e1, e2, HB7⟩)
          all_goals
            gi_wp2
            have hfin := HP6.out.fin HB7.out
            refine ⟨HK6.out.trans hfin.2, ?_, by omega⟩
            have hc := HC5.out
            have h1 := hfin.1
            rw [hc] at h1
            exact HS.out.next HY.out hy.1 hlt HX5.out HPn.out h1
end Go.Proofs.Ythmejmnbbbiemaa
