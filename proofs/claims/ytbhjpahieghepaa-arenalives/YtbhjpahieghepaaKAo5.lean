/-
  ArenaLives: one pair, step by step.
  KEEP: set on app at below new trans refl start ap kept rd rds mono own row cells lt box lo ml ms c0 f0 form max find eq ma some none more map keep mv c kill kst book step after block size cell alloc from same bx pw
-/
import Derived.Test.YtbhjpahieghepaaKAo4
set_option linter.unusedSimpArgs false
set_option linter.unusedVariables false
namespace Go.Proofs.Ytbhjpahieghepaa
open Go Go.RowKit Go.Maps

/-- one pair -/
structure On (w W : World) (D b m N : Nat) (v : Value) (S : List Seg) : Prop where
  ex : ∃ (F : Nat → Prop) (rv : Value) (L : List Mt) (tv mv : Value) (T : List Te), Pr4 F W D b v S m rv L tv mv T ∧ (∀ k, F k → w.heap.size ≤ k) ∧ L.length ≤ N ∧ T.length ≤ N
  fl : (flat S).length ≤ N
  bel : Below w.heap.size w W
theorem On.below {w W W' : World} {D b m N : Nat} {v : Value} {S : List Seg} (h : On w W D b m N v S) (hb : Below W.heap.size W W') : On w W' D b m N v S := by
  obtain ⟨F, rv, L, tv, mv, T, p, f, n1, n2⟩ := h.ex
  exact ⟨⟨F, rv, L, tv, mv, T, p.below hb, f, n1, n2⟩, h.fl, Below.step h.bel hb⟩
theorem On.ar {w W : World} {D b m N : Nat} {v : Value} {S : List Seg} (h : On w W D b m N v S) : Ar W b v S := by
  obtain ⟨F, rv, L, tv, mv, T, p, f, n1, n2⟩ := h.ex
  exact p.ar
theorem on_go {w W W' : World} {D b m N : Nat} {v : Value} {S : List Seg} (h : On w W D b m N v S) (hWb : Below W.heap.size W W') (hN : N ≤ 1099511627776) (o : AOp) (u : Value) (hzl : o.lits.length ≤ 1099511627776) (hZ : ∀ (F F' : Nat → Prop) W'', (∀ k, F k → w.heap.size ≤ k ∧ k < W.heap.size) → Below w.heap.size w W' → Ps4 F F' W' W'' → Rd W'' u o.lits) (hg : ∀ x ∈ o.lits, Rng x) (hr : Rng o.ref) :
    Calls Try.prog 5 #[.pointer (some ⟨D, 0, none⟩), .agg #[.int .i64 o.kind, .int .i64 o.which, .int .i64 o.ref, u, .bool o.learnt]] W' fun e w' => e = .returned (.bool true) ∧ ∃ v' S', On w w' D b m (N + (o.lits.length + 1)) v' S' ∧ ∀ S0 g, Ol W v S S0 g → Ol w' v' S' S0 g := by
  have hA' := (h.below hWb).ar
  obtain ⟨F, rv, L, tv, mv, T, p, f, n1, n2⟩ := h.ex
  have n0 := h.fl
  have hb' : Below w.heap.size w W' := Below.step h.bel hWb
  refine (plays_any F D b m v rv tv mv S L T o u W' (p.below hWb) (by omega) (by omega) (by omega) hzl (fun F' W'' q => hZ F F' W'' (fun k hk => ⟨f k hk, p.lt' k hk⟩) hb' q) hg hr).mono fun e w' q => ?_
  obtain ⟨F', v', S', rv', L', tv', mv', T', he, hp, hs, a1, a2, a3, pw⟩ := q
  exact ⟨he, v', S', ⟨⟨F', rv', L', tv', mv', T', hp, fun k q => (hs.sub k q).elim (f k) (fun q => Nat.le_trans hb'.size q), by omega, by omega⟩, by omega, hs.bel hb' f⟩, fun S0 g ol => (ol.below hWb).pw hA' pw hp.ar⟩
theorem on_step {w W : World} {D b m N : Nat} {v : Value} {S : List Seg} (h : On w W D b m N v S) (hN : N ≤ 1099511627776) (o : AOp) (u : Value) (hzl : o.lits.length ≤ 1099511627776) (hz : Rd w u o.lits) (hg : ∀ x ∈ o.lits, Rng x) (hr : Rng o.ref) :
    Calls Try.prog 5 #[.pointer (some ⟨D, 0, none⟩), .agg #[.int .i64 o.kind, .int .i64 o.which, .int .i64 o.ref, u, .bool o.learnt]] W fun e w' => e = .returned (.bool true) ∧ ∃ v' S', On w w' D b m (N + (o.lits.length + 1)) v' S' ∧ ∀ S0 g, Ol W v S S0 g → Ol w' v' S' S0 g :=
  on_go h (Below.refl _ _) hN o u hzl (fun F F' W'' hF hb p => hz.below (p.bel hb (fun k hk => (hF k hk).1))) hg hr
theorem on_own {w W W' : World} {D b m N : Nat} {v : Value} {S : List Seg} (h : On w W D b m N v S) (hWb : Below W.heap.size W W') (hN : N ≤ 1099511627776) (o : AOp) (u : Value) (hzl : o.lits.length ≤ 1099511627776) (hu : Rd W' u o.lits) (hn : ∀ g, u.ownBlock = some g → W.heap.size ≤ g ∧ g < W'.heap.size) (hg : ∀ x ∈ o.lits, Rng x) (hr : Rng o.ref) :
    Calls Try.prog 5 #[.pointer (some ⟨D, 0, none⟩), .agg #[.int .i64 o.kind, .int .i64 o.which, .int .i64 o.ref, u, .bool o.learnt]] W' fun e w' => e = .returned (.bool true) ∧ ∃ v' S', On w w' D b m (N + (o.lits.length + 1)) v' S' ∧ ∀ S0 g, Ol W v S S0 g → Ol w' v' S' S0 g :=
  on_go h hWb hN o u hzl (fun F F' W'' hF hb p => rd_kept4 hu p.size (fun k hk => p.block k (hn k hk).2 (fun q => absurd (hF k q).2 (by have := (hn k hk).1; omega)))) hg hr
/-- the document's Live, and same of it -/
theorem on_same {w W : World} {D b m N : Nat} {v : Value} {S : List Seg} (h : On w W D b m N v S) (hN : N ≤ 1099511627776) :
    ∃ L : List Mt, (L.map fun x => (x.2.pl, x.2.lits)) = rdL (lv 0 S) ∧ Calls Try.prog 7 #[.pointer (some ⟨m, 0, none⟩)] W fun e w' => ∃ a c, e = .returned (.slice a L.length c) ∧ w'.ownsRow W.heap.size 43 4 (.slice a L.length c) L.length (rowsM L) ∧ (∀ x ∈ L, Own 0 w' x.1 x.2.lits) ∧ Below W.heap.size W w' := by
  obtain ⟨F, rv, L, tv, mv, T, p, f, n1, n2⟩ := h.ex
  refine ⟨lvM L, ?_, (mLive_any 0 m rv L W p.mz.ma (by omega)).mono fun e w' ⟨a, c, he, lr, hb⟩ => ⟨a, c, he, lr, fun x hx => (p.mz.ma.ml.own x (lvM_mem hx)).below hb, hb⟩⟩
  have h1 := live_lv S 0
  have h2 := congrArg (List.map fun x : Mc => (x.pl, x.lits)) (lvM_snd L)
  rw [p.mz.eq] at h2
  rw [List.map_map] at h2
  unfold rdL
  rw [← h1, List.map_map]
  exact h2
end Go.Proofs.Ytbhjpahieghepaa
