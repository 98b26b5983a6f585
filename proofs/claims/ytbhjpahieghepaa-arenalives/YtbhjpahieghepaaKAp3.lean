/-
  ArenaSpares: lists that are none of the arena's, through its steps.
  KEEP: set on app at below new trans refl start ap kept rd rds mono own row cells lt box lo ml ms c0 f0 form max find eq ma some none more map keep mv c kill kst book drew alloc step block cell tys put came out
-/
import Derived.Test.YtbhjpahieghepaaKAp2
set_option linter.unusedSimpArgs false
set_option linter.unusedVariables false
namespace Go.Proofs.Ytbhjpahieghepaa
open Go Go.RowKit Go.Maps Go.Shelf

section
variable {w0 W W' : World} {b : Nat} {v v' : Value} {S S' R : List Seg} {pv pv' uv uv' cv cv' : Value} {U C : List Ls}
/-- a value's block is there, and none of those that are used -/
def Out (W : World) (G : Nat → Prop) (x : Value) : Prop := ∀ g, x.ownBlock = some g → g < W.heap.size ∧ ¬ G g
theorem Out.of_new {G : Nat → Prop} {x : Value} {B : Nat} (hG : ∀ k, G k → k < B) (hx : ∀ g, x.ownBlock = some g → B ≤ g ∧ g < W.heap.size) : Out W G x := fun g hg => ⟨(hx g hg).2, fun q => by have := hG g q; have := (hx g hg).1; omega⟩
theorem Out.sub {G G' : Nat → Prop} {x : Value} (h : Out W G x) (hs : W.heap.size ≤ W'.heap.size) (hG : ∀ k, G' k → G k ∨ W.heap.size ≤ k) : Out W' G' x := fun g hg => ⟨Nat.lt_of_lt_of_le (h g hg).1 hs, fun q => (hG g q).elim (h g hg).2 (fun e => by have := (h g hg).1; omega)⟩
theorem Out.mono {G : Nat → Prop} {x : Value} (h : Out W G x) (hs : W.heap.size ≤ W'.heap.size) : Out W' G x := h.sub hs fun k hk => .inl hk
theorem arSub (k : Mv W b v W' v') : ∀ i, Gq4 b v' pv uv cv U C i → Gq4 b v pv uv cv U C i ∨ W.heap.size ≤ i := by
  rintro i (q | q | q)
  · exact .inl (.inl q)
  · rcases k.new with e | e
    · exact .inl (.inr (.inl (by rw [← e]; exact q)))
    · exact .inr (e i q)
  · exact .inl (.inr (.inr q))
theorem notedSub {W1 W2 W3 : World} {x : Value} {zs : List Int} (a1 : Ap W pv W1 pv') (b2 : Below W1.heap.size W1 W2) (ox : Own W1.heap.size W2 x zs) (a3 : Ap W2 uv W3 uv') : ∀ i, Gq4 b v pv' uv' cv (U ++ [(x, zs)]) C i → Gq4 b v pv uv cv U C i ∨ W.heap.size ≤ i := by
  have h1 : W.heap.size ≤ W1.heap.size := a1.grown.size
  have h2 : W1.heap.size ≤ W2.heap.size := b2.size
  rintro i (q | q | q | q | q | ⟨y, hy, q⟩ | q)
  · exact .inl (.inl q)
  · exact .inl (.inr (.inl q))
  · rcases ap_new a1 i q with e | e
    · exact .inl (.inr (.inr (.inl e)))
    · exact .inr e
  · rcases ap_new a3 i q with e | e
    · exact .inl (.inr (.inr (.inr (.inl e))))
    · exact .inr (by omega)
  · exact .inl (.inr (.inr (.inr (.inr (.inl q)))))
  · rcases List.mem_append.1 hy with m | m
    · exact .inl (.inr (.inr (.inr (.inr (.inr (.inl ⟨y, m, q⟩))))))
    · rw [List.mem_singleton.1 m] at q
      have := (World.ownsRow.lt ox i q).1
      exact .inr (by omega)
  · exact .inl (.inr (.inr (.inr (.inr (.inr (.inr q))))))
theorem rd_keptz {x : Value} {zs : List Int} (h : Rd W x zs) (hs : W.heap.size ≤ W'.heap.size) (hk : zs ≠ [] → ∀ k, x.ownBlock = some k → W'.heap[k]? = W.heap[k]?) : Rd W' x zs := by
  by_cases hz : zs = []
  · obtain ⟨h1, a, c, e, h2, h3, h4, -⟩ := h
    exact ⟨h1, a, c, e, h2, h3, h4, fun hne => absurd hz hne⟩
  · exact rd_kept4 h hs (hk hz)
theorem rd_outMv {x : Value} {zs : List Int} (h : Rd W x zs) (ho : zs ≠ [] → Out W (Gq4 b v pv uv cv U C) x) (k : Mv W b v W' v') : Rd W' x zs :=
  rd_keptz h k.size fun hz g hg => k.block g (ho hz g hg).1 (fun e => (ho hz g hg).2 (.inl e)) (fun e => (ho hz g hg).2 (.inr (.inl e.symm)))
theorem own_outMv {B : Nat} {x : Value} {zs : List Int} (h : Own B W x zs) (ho : Out W (Gq4 b v pv uv cv U C) x) (k : Mv W b v W' v') : Own B W' x zs :=
  row_kept4 h fun g hg => k.block g (ho g hg).1 (fun e => (ho g hg).2 (.inl e)) (fun e => (ho g hg).2 (.inr (.inl e.symm)))
theorem rd_outAp {x y y' : Value} {zs : List Int} {G : Nat → Prop} (h : Rd W x zs) (ho : zs ≠ [] → Out W G x) (k : Ap W y W' y') (hy : ∀ g, y.ownBlock = some g → G g) : Rd W' x zs :=
  rd_keptz h k.grown.size fun hz g hg => k.grown.block g (ho hz g hg).1 (fun e => (ho hz g hg).2 (hy g e.symm))
theorem own_outAp {B : Nat} {x y y' : Value} {zs : List Int} {G : Nat → Prop} (h : Own B W x zs) (ho : Out W G x) (k : Ap W y W' y') (hy : ∀ g, y.ownBlock = some g → G g) : Own B W' x zs :=
  row_kept4 h fun g hg => k.grown.block g (ho g hg).1 (fun e => (ho g hg).2 (hy g e.symm))
/-- the row of what was put, behind the row of places' growing -/
theorem Sq.uvAt (h : Sq w0 W b v S R pv uv cv U C) (a1 : Ap W pv W' pv') : W'.ownsRow 0 32 1 uv U.length (U.map Prod.fst) :=
  row_kept4 h.ur fun g hg => a1.grown.block g (h.lt g (.inr (.inr (.inr (.inl hg))))) (fun e => absurd ((h.tys.2.2.1 g e.symm).symm.trans (h.tys.2.2.2.1 g hg)) (by decide))
/-- the front of a list that is lent -/
theorem front4 {B cap : Nat} {a : Option Addr} {X zs : List Int} (h : Own B W (.slice a X.length cap) X) (hX : X = zs ++ m64) (h8 : zs.length * 8 ≤ 140737488351232) : Rd W (.slice a zs.length cap) zs := by
  have hl : X.length = zs.length + 64 := by rw [hX, List.length_append]; rfl
  rcases h.2 with ⟨e, e2⟩ | ⟨g, cap', cur, e, hb, hh, hnc, hcm, hcs, ht⟩
  · omega
  · injection e with e1 e2 e3
    subst e1; subst e3
    refine ⟨h8, some ⟨g, 0, none⟩, cap, rfl, by omega, hcm, (fun e => by cases e), fun hne => ⟨g, 0, rfl, (Array.getElem?_eq_some_iff.1 hh).1, fun j hj => ?_⟩⟩
    have hc := World.ownsRow.cells h (g := g) rfl j (.int .i64 (zs.getD j 0)) (by rw [hX, List.map_append, List.getElem?_append_left (by simpa using hj), List.getElem?_map, List.getElem?_eq_getElem hj]; simp [List.getD_eq_getElem?_getD, List.getElem?_eq_getElem hj])
    rw [Addr.add_lit] at hc
    exact hc
theorem own_pos {B cap n : Nat} {a : Option Addr} {X : List Int} (h : Own B W (.slice a n cap) X) (hn : 0 < X.length) : ∃ g, a = some ⟨g, 0, none⟩ ∧ X.length ≤ cap := by
  have hl := h.1
  rcases h.2 with ⟨e, e2⟩ | ⟨g, cap', cur, e, hb, hh, hnc, hcm, hcs, ht⟩
  · omega
  · injection e with e1 e2 e3
    exact ⟨g, e1, by omega⟩
end
end Go.Proofs.Ytbhjpahieghepaa
