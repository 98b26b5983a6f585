/-
  ArenaLives: the second loop: a Live that was taken, and what it is held against, stay.
  KEEP: set on app at below new trans refl start ap kept rd rds mono own row cells lt box lo ml ms c0 f0 form max find eq ma some none more map keep mv c kill kst book step after block size cell alloc from same bx pw oq ol lst
-/
import Derived.Test.YtbhjpahieghepaaKAo7
set_option linter.unusedSimpArgs false
set_option linter.unusedVariables false
namespace Go.Proofs.Ytbhjpahieghepaa
open Go Go.RowKit Go.Maps

/-- the document's Live, later -/
theorem on_same3 {w W : World} {D b m N : Nat} {v : Value} {S : List Seg} (h : On w W D b m N v S) (hN : N ≤ 1099511627776) :
    ∃ L : List Mt, (L.map fun x => (x.2.pl, x.2.lits)) = rdL (lv 0 S) ∧ (∀ x ∈ L, Own 0 W x.1 x.2.lits ∧ ∀ k, x.1.ownBlock = some k → v.ownBlock ≠ some k) ∧ ∀ W', Below W.heap.size W W' → Calls Try.prog 7 #[.pointer (some ⟨m, 0, none⟩)] W' fun e w' => ∃ a c, e = .returned (.slice a L.length c) ∧ w'.ownsRow W'.heap.size 43 4 (.slice a L.length c) L.length (rowsM L) ∧ Below W'.heap.size W' w' := by
  obtain ⟨F, rv, L, tv, mv, T, p, f, n1, n2⟩ := h.ex
  refine ⟨lvM L, ?_, fun x hx => ⟨p.mz.ma.ml.own x (lvM_mem hx), p.sp x (lvM_mem hx)⟩, fun W' hW => (mLive_any 0 m rv L W' (p.below hW).mz.ma (by omega)).mono fun e w' ⟨a, c, he, lr, hb⟩ => ⟨a, c, he, lr, hb⟩⟩
  have h1 := live_lv S 0
  have h2 := congrArg (List.map fun x : Mc => (x.pl, x.lits)) (lvM_snd L)
  rw [p.mz.eq] at h2
  rw [List.map_map] at h2
  unfold rdL
  rw [← h1, List.map_map]
  exact h2
/-- one pair beside blocks that stay, the words of a Live that was taken at S0, and the lists of M -/
structure Oz (w W0 W : World) (Q : Nat → Prop) (D b m N : Nat) (v : Value) (S S0 : List Seg) (g : Nat) (M : List Mt) : Prop where
  oq : Oq w W0 W Q D b m N v S
  ol : Ol W v S S0 g
  lst : ∀ x ∈ M, Own 0 W x.1 x.2.lits ∧ ∀ k, x.1.ownBlock = some k → v.ownBlock ≠ some k
section
variable {w W W' W0 : World} {Q : Nat → Prop} {D b m N g : Nat} {v : Value} {S S0 : List Seg} {M : List Mt}
theorem oz_step (h : Oz w W0 W Q D b m N v S S0 g M) (hN : N ≤ 1099511627776) (o : AOp) (u : Value) (hzl : o.lits.length ≤ 1099511627776) (hz : Rd w u o.lits) (hg : ∀ x ∈ o.lits, Rng x) (hr : Rng o.ref) :
    Calls Try.prog 5 #[.pointer (some ⟨D, 0, none⟩), .agg #[.int .i64 o.kind, .int .i64 o.which, .int .i64 o.ref, u, .bool o.learnt]] W fun e w' => e = .returned (.bool true) ∧ ∃ v' S', Oz w W0 w' Q D b m (N + (o.lits.length + 1)) v' S' S0 g M := by
  refine (oq_step h.oq hN o u hzl hz hg hr).mono fun e w' q => ?_
  obtain ⟨he, v', S', h1, h2, h3, h4⟩ := q
  refine ⟨he, v', S', h1, h2 _ _ h.ol, fun x hx => ?_⟩
  obtain ⟨ho, hs⟩ := h.lst x hx
  have key : ∀ k, x.1.ownBlock = some k → w'.heap[k]? = W.heap[k]? ∧ v'.ownBlock ≠ some k := fun k hk => h3.ki k (World.ownsRow.lt ho k hk).2 (tyB_row ho hk) (hs k hk)
  exact ⟨row_kept4 ho fun k hk => (key k hk).1, fun k hk => (key k hk).2⟩
theorem Oz.start (h : On w W D b m N v S) (hb : Below W.heap.size W W0) (ho : Ol W v S S g) (hm : ∀ x ∈ M, Own 0 W x.1 x.2.lits ∧ ∀ k, x.1.ownBlock = some k → v.ownBlock ≠ some k) : Oz w W0 W0 (fun k => W.heap.size ≤ k ∧ k < W0.heap.size) D b m N v S S g M :=
  ⟨Oq.start h hb (fun k q => q), ho.below hb, fun x hx => ⟨(hm x hx).1.below hb, (hm x hx).2⟩⟩
end
end Go.Proofs.Ytbhjpahieghepaa
