/-
  ArenaSpares: the arena, the rows of places, of what was put and of what came, in memory.
  KEEP: set on app at below new trans refl start ap kept rd rds mono own row cells lt box lo ml ms c0 f0 form max find eq ma some none more map keep mv c kill kst book drew alloc step block cell tys put came
-/
import Derived.Test.YtbhjpahieghepaaKAp1
import Derived.Test.YtbhjpahieghepaaKitA
import Derived.Test.YtbhjpahieghepaaAparAW
set_option linter.unusedSimpArgs false
set_option linter.unusedVariables false
namespace Go.Proofs.Ytbhjpahieghepaa
open Go Go.RowKit Go.Maps Go.Shelf

/-- a list's value, and what it holds -/
abbrev Ls := Value × List Int
/-- the values lie apart -/
def Apv (X : List Value) : Prop := X.Pairwise fun a b => ∀ g, a.ownBlock = some g → b.ownBlock ≠ some g
/-- the blocks that are used -/
def Gq4 (b : Nat) (v pv uv cv : Value) (U C : List Ls) (k : Nat) : Prop :=
  k = b ∨ v.ownBlock = some k ∨ pv.ownBlock = some k ∨ uv.ownBlock = some k ∨ cv.ownBlock = some k ∨ (∃ x ∈ U, x.1.ownBlock = some k) ∨ ∃ x ∈ C, x.1.ownBlock = some k
structure Sq (w0 W : World) (b : Nat) (v : Value) (S R : List Seg) (pv uv cv : Value) (U C : List Ls) : Prop where
  bel : Below w0.heap.size w0 W
  ar : Ar W b v S
  lo : ∀ k, Gq4 b v pv uv cv U C k → w0.heap.size ≤ k
  pr : W.ownsRow 0 41 1 pv (lv 0 R).length ((lv 0 R).map fun x => Value.int .i64 x.1)
  ur : W.ownsRow 0 32 1 uv U.length (U.map Prod.fst)
  uo : ∀ x ∈ U, Own 0 W x.1 x.2
  ue : U.map Prod.snd = (lv 0 R).map fun x => x.2.1
  cr : W.ownsRow 0 32 1 cv C.length (C.map Prod.fst)
  co : ∀ x ∈ C, Own 0 W x.1 x.2
  uc : ∀ g, uv.ownBlock = some g → cv.ownBlock ≠ some g
  ap : Apv (v :: (U.map Prod.fst ++ C.map Prod.fst))
section
variable {w0 W W' : World} {b : Nat} {v v' : Value} {S S' R : List Seg} {pv pv' uv uv' cv cv' : Value} {U C : List Ls}
theorem Sq.lt (h : Sq w0 W b v S R pv uv cv U C) : ∀ k, Gq4 b v pv uv cv U C k → k < W.heap.size := by
  rintro k (rfl | q | q | q | q | ⟨x, hx, q⟩ | ⟨x, hx, q⟩)
  · exact (Array.getElem?_eq_some_iff.1 h.ar.box).1
  · exact (World.ownsRow.lt h.ar.own k q).2
  · exact (World.ownsRow.lt h.pr k q).2
  · exact (World.ownsRow.lt h.ur k q).2
  · exact (World.ownsRow.lt h.cr k q).2
  · exact (World.ownsRow.lt (h.uo x hx) k q).2
  · exact (World.ownsRow.lt (h.co x hx) k q).2
/-- what becomes of other blocks is nothing to it -/
theorem Sq.keep (h : Sq w0 W b v S R pv uv cv U C) (hb : Below w0.heap.size w0 W') (hk : ∀ k, Gq4 b v pv uv cv U C k → W'.heap[k]? = W.heap[k]?) : Sq w0 W' b v S R pv uv cv U C :=
  ⟨hb, ⟨(hk b (.inl rfl)).trans h.ar.box, row_kept4 h.ar.own fun k e => hk k (.inr (.inl e)), h.ar.ok⟩, h.lo, row_kept4 h.pr fun k e => hk k (.inr (.inr (.inl e))), row_kept4 h.ur fun k e => hk k (.inr (.inr (.inr (.inl e)))), fun x hx => row_kept4 (h.uo x hx) fun k e => hk k (.inr (.inr (.inr (.inr (.inr (.inl ⟨x, hx, e⟩)))))), h.ue,
    row_kept4 h.cr fun k e => hk k (.inr (.inr (.inr (.inr (.inl e))))), fun x hx => row_kept4 (h.co x hx) fun k e => hk k (.inr (.inr (.inr (.inr (.inr (.inr ⟨x, hx, e⟩)))))), h.uc, h.ap⟩
theorem Sq.below (h : Sq w0 W b v S R pv uv cv U C) (hb : Below W.heap.size W W') : Sq w0 W' b v S R pv uv cv U C := h.keep (Below.step h.bel hb) fun k hk => hb.block k (h.lt k hk)
theorem Sq.tys (h : Sq w0 W b v S R pv uv cv U C) : tyB W b = some 75 ∧ (∀ g, v.ownBlock = some g → tyB W g = some 3) ∧ (∀ g, pv.ownBlock = some g → tyB W g = some 41) ∧ (∀ g, uv.ownBlock = some g → tyB W g = some 32) ∧ (∀ g, cv.ownBlock = some g → tyB W g = some 32) ∧ (∀ x ∈ U, ∀ g, x.1.ownBlock = some g → tyB W g = some 3) ∧ (∀ x ∈ C, ∀ g, x.1.ownBlock = some g → tyB W g = some 3) :=
  ⟨tyB_cells h.ar.box, fun g hg => tyB_row h.ar.own hg, fun g hg => tyB_row h.pr hg, fun g hg => tyB_row h.ur hg, fun g hg => tyB_row h.cr hg, fun x hx g hg => tyB_row (h.uo x hx) hg, fun x hx g hg => tyB_row (h.co x hx) hg⟩
/-- another block is written -/
theorem Sq.other {row : Option Nat} (h : Sq w0 W b v S R pv uv cv U C) (hg : W.grownBy W' row) (hr : ∀ g, row = some g → w0.heap.size ≤ g ∧ ¬ Gq4 b v pv uv cv U C g) : Sq w0 W' b v S R pv uv cv U C :=
  h.keep ⟨hg.os.trans h.bel.os, hg.tape.trans h.bel.tape, hg.output.trans h.bel.output, Nat.le_trans h.bel.size hg.size, fun k hk => (hg.block k (Nat.lt_of_lt_of_le hk h.bel.size) (fun e => by have := (hr k e.symm).1; omega)).trans (h.bel.block k hk)⟩ fun k hk => hg.block k (h.lt k hk) (fun e => (hr k e.symm).2 hk)
/-- a step of the arena -/
theorem Sq.arStep (h : Sq w0 W b v S R pv uv cv U C) (k : Mv W b v W' v') (a : Ar W' b v' S') : Sq w0 W' b v' S' R pv uv cv U C := by
  obtain ⟨tb, tv, tp, tu, tc, tU, tC⟩ := h.tys
  have hap := List.pairwise_cons.1 h.ap
  have nv : ∀ g, v'.ownBlock = some g → v.ownBlock = some g ∨ W.heap.size ≤ g := fun g hg => by
    rcases k.new with e | e
    · exact .inl (by rw [← e]; exact hg)
    · exact .inr (e g hg)
  have hk : ∀ i, Gq4 b v pv uv cv U C i → i ≠ b → some i ≠ v.ownBlock → W'.heap[i]? = W.heap[i]? := fun i hi h1 h2 => k.block i (h.lt i hi) h1 h2
  have pG : ∀ i, pv.ownBlock = some i → Gq4 b v pv uv cv U C i := fun i e => .inr (.inr (.inl e))
  have uG : ∀ i, uv.ownBlock = some i → Gq4 b v pv uv cv U C i := fun i e => .inr (.inr (.inr (.inl e)))
  have cG : ∀ i, cv.ownBlock = some i → Gq4 b v pv uv cv U C i := fun i e => .inr (.inr (.inr (.inr (.inl e))))
  have UG : ∀ x ∈ U, ∀ i, x.1.ownBlock = some i → Gq4 b v pv uv cv U C i := fun x hx i e => .inr (.inr (.inr (.inr (.inr (.inl ⟨x, hx, e⟩)))))
  have CG : ∀ x ∈ C, ∀ i, x.1.ownBlock = some i → Gq4 b v pv uv cv U C i := fun x hx i e => .inr (.inr (.inr (.inr (.inr (.inr ⟨x, hx, e⟩)))))
  refine ⟨⟨k.os.trans h.bel.os, k.tape.trans h.bel.tape, k.output.trans h.bel.output, Nat.le_trans h.bel.size k.size, fun i hi => (k.block i (Nat.lt_of_lt_of_le hi h.bel.size) (fun e => by have := h.lo b (.inl rfl); omega) (fun e => by have := h.lo i (.inr (.inl e.symm)); omega)).trans (h.bel.block i hi)⟩, a, ?_,
    row_kept4 h.pr fun i e => hk i (pG i e) (ne_ty (tp i e) tb (by decide)) (fun q => absurd ((tp i e).symm.trans (tv i q.symm)) (by decide)),
    row_kept4 h.ur fun i e => hk i (uG i e) (ne_ty (tu i e) tb (by decide)) (fun q => absurd ((tu i e).symm.trans (tv i q.symm)) (by decide)),
    fun x hx => row_kept4 (h.uo x hx) fun i e => hk i (UG x hx i e) (ne_ty (tU x hx i e) tb (by decide)) (fun q => hap.1 x.1 (List.mem_append.2 (.inl (List.mem_map_of_mem hx))) i q.symm e), h.ue,
    row_kept4 h.cr fun i e => hk i (cG i e) (ne_ty (tc i e) tb (by decide)) (fun q => absurd ((tc i e).symm.trans (tv i q.symm)) (by decide)),
    fun x hx => row_kept4 (h.co x hx) fun i e => hk i (CG x hx i e) (ne_ty (tC x hx i e) tb (by decide)) (fun q => hap.1 x.1 (List.mem_append.2 (.inr (List.mem_map_of_mem hx))) i q.symm e), h.uc, List.pairwise_cons.2 ⟨fun y hy g hg => ?_, hap.2⟩⟩
  · rintro i (rfl | q | q)
    · exact h.lo _ (.inl rfl)
    · rcases nv i q with e | e
      · exact h.lo i (.inr (.inl e))
      · exact Nat.le_trans h.bel.size e
    · exact h.lo i (.inr (.inr q))
  · rcases nv g hg with e | e
    · exact hap.1 y hy g e
    · intro q
      rcases List.mem_append.1 hy with m | m
      · obtain ⟨x, hx, rfl⟩ := List.mem_map.1 m
        have := h.lt g (UG x hx g q)
        omega
      · obtain ⟨x, hx, rfl⟩ := List.mem_map.1 m
        have := h.lt g (CG x hx g q)
        omega
theorem Sq.belMv (h : Sq w0 W b v S R pv uv cv U C) {D : Nat} {x x' : Value} (k : Ap W x W' x') (hx : ∀ g, x.ownBlock = some g → w0.heap.size ≤ g) : Below w0.heap.size w0 W' :=
  ⟨k.grown.os.trans h.bel.os, k.grown.tape.trans h.bel.tape, k.grown.output.trans h.bel.output, Nat.le_trans h.bel.size k.grown.size, fun i hi => (k.grown.block i (Nat.lt_of_lt_of_le hi h.bel.size) (fun e => by have := hx i e.symm; omega)).trans (h.bel.block i hi)⟩
theorem ap_new {x x' : Value} (k : Ap W x W' x') : ∀ g, x'.ownBlock = some g → x.ownBlock = some g ∨ W.heap.size ≤ g := fun g hg => by
  rcases k.new with e | e
  · exact .inl (by rw [← e]; exact hg)
  · exact .inr (e g hg)
/-- what is put is noted: its place, and a copy -/
theorem Sq.noted {s : Seg} {W1 W2 W3 : World} {x : Value} (hl : s.live = true) (h : Sq w0 W b v (R ++ [s]) R pv uv cv U C)
    (a1 : Ap W pv W1 pv') (o1 : W1.ownsRow 0 41 1 pv' ((lv 0 R).length + 1) (((lv 0 R).map fun x => Value.int .i64 x.1) ++ [.int .i64 ((flat R).length : Int)]))
    (b2 : Below W1.heap.size W1 W2) (ox : Own W1.heap.size W2 x s.lits) (a3 : Ap W2 uv W3 uv') (o3 : W3.ownsRow 0 32 1 uv' (U.length + 1) (U.map Prod.fst ++ [x])) :
    Sq w0 W3 b v (R ++ [s]) (R ++ [s]) pv' uv' cv (U ++ [(x, s.lits)]) C := by
  have hlv : lv 0 (R ++ [s]) = lv 0 R ++ [(((flat R).length : Int), s.lits, s.learnt)] := by
    rw [lv_append, lv_cons, hl]
    simp [lv]
  obtain ⟨tb, tv, tp, tu, tc, tU, tC⟩ := h.tys
  have B1 := h.belMv (D := b) a1 (fun g e => h.lo g (.inr (.inr (.inl e))))
  have k1 : ∀ i, Gq4 b v pv uv cv U C i → tyB W i ≠ some 41 → W1.heap[i]? = W.heap[i]? := fun i hi ht => a1.grown.block i (h.lt i hi) (fun e => ht (tp i e.symm))
  have pG : ∀ i, pv.ownBlock = some i → Gq4 b v pv uv cv U C i := fun i e => .inr (.inr (.inl e))
  have vG : ∀ i, v.ownBlock = some i → Gq4 b v pv uv cv U C i := fun i e => .inr (.inl e)
  have uG : ∀ i, uv.ownBlock = some i → Gq4 b v pv uv cv U C i := fun i e => .inr (.inr (.inr (.inl e)))
  have cG : ∀ i, cv.ownBlock = some i → Gq4 b v pv uv cv U C i := fun i e => .inr (.inr (.inr (.inr (.inl e))))
  have UG : ∀ x ∈ U, ∀ i, x.1.ownBlock = some i → Gq4 b v pv uv cv U C i := fun x hx i e => .inr (.inr (.inr (.inr (.inr (.inl ⟨x, hx, e⟩)))))
  have CG : ∀ x ∈ C, ∀ i, x.1.ownBlock = some i → Gq4 b v pv uv cv U C i := fun x hx i e => .inr (.inr (.inr (.inr (.inr (.inr ⟨x, hx, e⟩)))))
  -- from W to W2
  have k2 : ∀ i, Gq4 b v pv uv cv U C i → tyB W i ≠ some 41 → W2.heap[i]? = W.heap[i]? := fun i hi ht => (b2.block i (Nat.lt_of_lt_of_le (h.lt i hi) a1.grown.size)).trans (k1 i hi ht)
  have ty2 : ∀ i, Gq4 b v pv uv cv U C i → tyB W i ≠ some 41 → tyB W2 i = tyB W i := fun i hi ht => by unfold tyB; rw [k2 i hi ht]
  have u2 : ∀ i, uv.ownBlock = some i → tyB W2 i = some 32 := fun i e => (ty2 i (uG i e) (by rw [tu i e]; decide)).trans (tu i e)
  -- from W to W3
  have k3 : ∀ i, Gq4 b v pv uv cv U C i → tyB W i ≠ some 41 → uv.ownBlock ≠ some i → W3.heap[i]? = W.heap[i]? := fun i hi ht hu => (a3.grown.block i (Nat.lt_of_lt_of_le (h.lt i hi) (Nat.le_trans a1.grown.size b2.size)) (fun e => hu e.symm)).trans (k2 i hi ht)
  have k3i : ∀ i, Gq4 b v pv uv cv U C i → tyB W i = some 3 → W3.heap[i]? = W.heap[i]? := fun i hi ht => k3 i hi (by rw [ht]; decide) (fun e => absurd ((tu i e).symm.trans ht) (by decide))
  have hsz : W.heap.size ≤ W1.heap.size := a1.grown.size
  have hsz2 : W1.heap.size ≤ W2.heap.size := b2.size
  have hsz3 : W2.heap.size ≤ W3.heap.size := a3.grown.size
  have hw0 : w0.heap.size ≤ W.heap.size := h.bel.size
  have px : ∀ i, pv'.ownBlock = some i → i < W1.heap.size ∧ tyB W1 i = some 41 := fun i e => ⟨(World.ownsRow.lt o1 i e).2, tyB_row o1 e⟩
  have nx : ∀ i, x.ownBlock = some i → W1.heap.size ≤ i ∧ i < W2.heap.size := fun i e => World.ownsRow.lt ox i e
  have up : ∀ i, uv'.ownBlock = some i → uv.ownBlock = some i ∨ W2.heap.size ≤ i := ap_new a3
  have pp : ∀ i, pv'.ownBlock = some i → pv.ownBlock = some i ∨ W.heap.size ≤ i := ap_new a1
  refine ⟨?_, ⟨(k3 b (.inl rfl) (by rw [tb]; decide) (fun e => absurd ((tu b e).symm.trans tb) (by decide))).trans h.ar.box, row_kept4 h.ar.own fun i e => k3i i (vG i e) (tv i e), h.ar.ok⟩, ?_, ?_, ?_, ?_, ?_, ?_, fun y hy => row_kept4 (h.co y hy) fun i e => k3i i (CG y hy i e) (tC y hy i e), ?_, ?_⟩
  · exact ⟨a3.grown.os.trans (b2.os.trans B1.os), a3.grown.tape.trans (b2.tape.trans B1.tape), a3.grown.output.trans (b2.output.trans B1.output), by omega, fun i hi => (a3.grown.block i (by omega) (fun e => by have := h.lo i (uG i e.symm); omega)).trans ((b2.block i (by omega)).trans (B1.block i hi))⟩
  · rintro i (rfl | q | q | q | q | ⟨y, hy, q⟩ | ⟨y, hy, q⟩)
    · exact h.lo _ (.inl rfl)
    · exact h.lo i (vG i q)
    · rcases pp i q with e | e
      · exact h.lo i (pG i e)
      · omega
    · rcases up i q with e | e
      · exact h.lo i (uG i e)
      · omega
    · exact h.lo i (cG i q)
    · rcases List.mem_append.1 hy with m | m
      · exact h.lo i (UG y m i q)
      · rw [List.mem_singleton.1 m] at q
        have := (nx i q).1
        omega
    · exact h.lo i (CG y hy i q)
  · rw [hlv, List.length_append, List.map_append]
    refine row_kept4 o1 fun i e => (a3.grown.block i (by have := (px i e).1; omega) (fun q => ?_)).trans (b2.block i (px i e).1)
    have e2 : tyB W2 i = tyB W1 i := by unfold tyB; rw [b2.block i (px i e).1]
    exact absurd ((u2 i q.symm).symm.trans (e2.trans (px i e).2)) (by decide)
  · rw [List.length_append, List.map_append]; exact o3
  · intro y hy
    rcases List.mem_append.1 hy with m | m
    · exact row_kept4 (h.uo y m) fun i e => k3i i (UG y m i e) (tU y m i e)
    · rw [List.mem_singleton.1 m]
      refine row_mono (row_kept4 ox fun i e => a3.grown.block i (nx i e).2 (fun q => ?_)) (Nat.zero_le _)
      have := h.lt i (uG i q.symm)
      have := (nx i e).1
      omega
  · rw [hlv, List.map_append, List.map_append, h.ue]
    rfl
  · exact row_kept4 h.cr fun i e => k3 i (cG i e) (by rw [tc i e]; decide) (fun q => h.uc i q e)
  · intro g hg q
    rcases up g hg with e | e
    · exact h.uc g e q
    · have := h.lt g (cG g q)
      omega
  · have hap := List.pairwise_cons.1 h.ap
    have hap2 := List.pairwise_append.1 hap.2
    have old : ∀ y ∈ v :: (U.map Prod.fst ++ C.map Prod.fst), ∀ g, y.ownBlock = some g → g < W.heap.size := fun y hy g hg => by
      rcases List.mem_cons.1 hy with m | m
      · rw [m] at hg; exact h.lt g (vG g hg)
      · rcases List.mem_append.1 m with m | m
        · obtain ⟨z, hz, rfl⟩ := List.mem_map.1 m; exact h.lt g (UG z hz g hg)
        · obtain ⟨z, hz, rfl⟩ := List.mem_map.1 m; exact h.lt g (CG z hz g hg)
    rw [List.map_append]
    show Apv (v :: (U.map Prod.fst ++ [x] ++ C.map Prod.fst))
    refine List.pairwise_cons.2 ⟨fun y hy g hg q => ?_, List.pairwise_append.2 ⟨List.pairwise_append.2 ⟨hap2.1, List.pairwise_singleton _ _, fun y hy z hz g hg q => ?_⟩, hap2.2.1, fun y hy z hz g hg q => ?_⟩⟩
    · rcases List.mem_append.1 hy with m | m
      · rcases List.mem_append.1 m with m | m
        · exact hap.1 y (List.mem_append.2 (.inl m)) g hg q
        · rw [List.mem_singleton.1 m] at q
          have := (nx g q).1
          have := h.lt g (vG g hg)
          omega
      · exact hap.1 y (List.mem_append.2 (.inr m)) g hg q
    · rw [List.mem_singleton.1 hz] at q
      have := (nx g q).1
      have := old y (List.mem_cons_of_mem _ (List.mem_append.2 (.inl hy))) g hg
      omega
    · rcases List.mem_append.1 hy with m | m
      · exact hap2.2.2 y m z hz g hg q
      · rw [List.mem_singleton.1 m] at hg
        have := (nx g hg).1
        have := old z (List.mem_cons_of_mem _ (List.mem_append.2 (.inr hz))) g q
        omega
/-- one more came -/
theorem Sq.came {x : Value} {Z : List Int} (h : Sq w0 W b v S R pv uv cv U C) (hx : Own 0 W x Z) (nx : ∀ g, x.ownBlock = some g → w0.heap.size ≤ g ∧ ¬ Gq4 b v pv uv cv U C g)
    (a1 : Ap W cv W' cv') (o1 : W'.ownsRow 0 32 1 cv' (C.length + 1) (C.map Prod.fst ++ [x])) : Sq w0 W' b v S R pv uv cv' U (C ++ [(x, Z)]) := by
  obtain ⟨tb, tv, tp, tu, tc, tU, tC⟩ := h.tys
  have B1 := h.belMv (D := b) a1 (fun g e => h.lo g (.inr (.inr (.inr (.inr (.inl e))))))
  have k1 : ∀ i, Gq4 b v pv uv cv U C i → tyB W i ≠ some 32 → W'.heap[i]? = W.heap[i]? := fun i hi ht => a1.grown.block i (h.lt i hi) (fun e => ht (tc i e.symm))
  have pG : ∀ i, pv.ownBlock = some i → Gq4 b v pv uv cv U C i := fun i e => .inr (.inr (.inl e))
  have vG : ∀ i, v.ownBlock = some i → Gq4 b v pv uv cv U C i := fun i e => .inr (.inl e)
  have uG : ∀ i, uv.ownBlock = some i → Gq4 b v pv uv cv U C i := fun i e => .inr (.inr (.inr (.inl e)))
  have cG : ∀ i, cv.ownBlock = some i → Gq4 b v pv uv cv U C i := fun i e => .inr (.inr (.inr (.inr (.inl e))))
  have UG : ∀ x ∈ U, ∀ i, x.1.ownBlock = some i → Gq4 b v pv uv cv U C i := fun x hx i e => .inr (.inr (.inr (.inr (.inr (.inl ⟨x, hx, e⟩)))))
  have CG : ∀ x ∈ C, ∀ i, x.1.ownBlock = some i → Gq4 b v pv uv cv U C i := fun x hx i e => .inr (.inr (.inr (.inr (.inr (.inr ⟨x, hx, e⟩)))))
  have up : ∀ i, cv'.ownBlock = some i → cv.ownBlock = some i ∨ W.heap.size ≤ i := ap_new a1
  refine ⟨B1, ⟨(k1 b (.inl rfl) (by rw [tb]; decide)).trans h.ar.box, row_kept4 h.ar.own fun i e => k1 i (vG i e) (by rw [tv i e]; decide), h.ar.ok⟩, ?_, row_kept4 h.pr fun i e => k1 i (pG i e) (by rw [tp i e]; decide), row_kept4 h.ur fun i e => a1.grown.block i (h.lt i (uG i e)) (fun q => h.uc i e q.symm), fun y hy => row_kept4 (h.uo y hy) fun i e => k1 i (UG y hy i e) (by rw [tU y hy i e]; decide), h.ue, ?_, ?_, ?_, ?_⟩
  · rintro i (rfl | q | q | q | q | ⟨y, hy, q⟩ | ⟨y, hy, q⟩)
    · exact h.lo _ (.inl rfl)
    · exact h.lo i (vG i q)
    · exact h.lo i (pG i q)
    · exact h.lo i (uG i q)
    · rcases up i q with e | e
      · exact h.lo i (cG i e)
      · have := h.bel.size
        omega
    · exact h.lo i (UG y hy i q)
    · rcases List.mem_append.1 hy with m | m
      · exact h.lo i (CG y m i q)
      · rw [List.mem_singleton.1 m] at q
        exact (nx i q).1
  · rw [List.length_append, List.map_append]; exact o1
  · intro y hy
    rcases List.mem_append.1 hy with m | m
    · exact row_kept4 (h.co y m) fun i e => k1 i (CG y m i e) (by rw [tC y m i e]; decide)
    · rw [List.mem_singleton.1 m]
      exact row_kept4 hx fun i e => a1.grown.block i (World.ownsRow.lt hx i e).2 (fun q => (nx i e).2 (cG i q.symm))
  · intro g hg q
    rcases up g q with e | e
    · exact h.uc g hg e
    · have := h.lt g (uG g hg)
      omega
  · have hap := List.pairwise_cons.1 h.ap
    rw [List.map_append, ← List.append_assoc]
    show Apv (v :: (U.map Prod.fst ++ C.map Prod.fst ++ [x]))
    refine List.pairwise_cons.2 ⟨fun y hy g hg q => ?_, List.pairwise_append.2 ⟨hap.2, List.pairwise_singleton _ _, fun y hy z hz g hg q => ?_⟩⟩
    · rcases List.mem_append.1 hy with m | m
      · exact hap.1 y m g hg q
      · rw [List.mem_singleton.1 m] at q
        exact (nx g q).2 (vG g hg)
    · rw [List.mem_singleton.1 hz] at q
      rcases List.mem_append.1 hy with m | m
      · obtain ⟨t, ht, rfl⟩ := List.mem_map.1 m
        exact (nx g q).2 (UG t ht g hg)
      · obtain ⟨t, ht, rfl⟩ := List.mem_map.1 m
        exact (nx g q).2 (CG t ht g hg)
end
end Go.Proofs.Ytbhjpahieghepaa
