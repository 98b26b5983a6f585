/-
  ArenaLives: one pair, step by step, beside blocks that stay.
  KEEP: set on app at below new trans refl start ap kept rd rds mono own row cells lt box lo ml ms c0 f0 form max find eq ma some none more map keep mv c kill kst book step after block size cell alloc from same bx pw
-/
import Derived.Test.YtbhjpahieghepaaKAo6
set_option linter.unusedSimpArgs false
set_option linter.unusedVariables false
namespace Go.Proofs.Ytbhjpahieghepaa
open Go Go.RowKit Go.Maps

/-- one pair; Q: blocks that are not its own, as they lay in W0 -/
structure Oq (w W0 W : World) (Q : Nat → Prop) (D b m N : Nat) (v : Value) (S : List Seg) : Prop where
  ex : ∃ (F : Nat → Prop) (rv : Value) (L : List Mt) (tv mv : Value) (T : List Te), Pr4 F W D b v S m rv L tv mv T ∧ (∀ k, F k → w.heap.size ≤ k ∧ ¬ Q k) ∧ L.length ≤ N ∧ T.length ≤ N
  fl : (flat S).length ≤ N
  bel : Below w.heap.size w W
  kq : ∀ k, Q k → k < W.heap.size ∧ W.heap[k]? = W0.heap[k]?
section
variable {w W W' W0 : World} {Q : Nat → Prop} {D b m N : Nat} {v : Value} {S : List Seg}
theorem Oq.on (h : Oq w W0 W Q D b m N v S) : On w W D b m N v S := by
  obtain ⟨F, rv, L, tv, mv, T, p, f, n1, n2⟩ := h.ex
  exact ⟨⟨F, rv, L, tv, mv, T, p, fun k hk => (f k hk).1, n1, n2⟩, h.fl, h.bel⟩
theorem Oq.start (h : On w W D b m N v S) (hb : Below W.heap.size W W0) (hQ : ∀ k, Q k → W.heap.size ≤ k ∧ k < W0.heap.size) : Oq w W0 W0 Q D b m N v S := by
  obtain ⟨F, rv, L, tv, mv, T, p, f, n1, n2⟩ := h.ex
  exact ⟨⟨F, rv, L, tv, mv, T, p.below hb, fun k hk => ⟨f k hk, fun q => by have := p.lt' k hk; have := (hQ k q).1; omega⟩, n1, n2⟩, h.fl, Below.step h.bel hb, fun k q => ⟨(hQ k q).2, rfl⟩⟩
theorem oq_step (h : Oq w W0 W Q D b m N v S) (hN : N ≤ 1099511627776) (o : AOp) (u : Value) (hzl : o.lits.length ≤ 1099511627776) (hz : Rd w u o.lits) (hg : ∀ x ∈ o.lits, Rng x) (hr : Rng o.ref) :
    Calls Try.prog 5 #[.pointer (some ⟨D, 0, none⟩), .agg #[.int .i64 o.kind, .int .i64 o.which, .int .i64 o.ref, u, .bool o.learnt]] W fun e w' => e = .returned (.bool true) ∧ ∃ v' S', Oq w W0 w' Q D b m (N + (o.lits.length + 1)) v' S' ∧ (∀ S0 g, Ol W v S S0 g → Ol w' v' S' S0 g) ∧ Pw W v S w' v' S' ∧ W.heap.size ≤ w'.heap.size := by
  have hA := h.on.ar
  obtain ⟨F, rv, L, tv, mv, T, p, f, n1, n2⟩ := h.ex
  have n0 := h.fl
  refine (plays_any F D b m v rv tv mv S L T o u W p (by omega) (by omega) (by omega) hzl (fun F' W'' q => hz.below (q.bel h.bel (fun k hk => (f k hk).1))) hg hr).mono fun e w' q => ?_
  obtain ⟨F', v', S', rv', L', tv', mv', T', he, hp, hs, a1, a2, a3, pw⟩ := q
  refine ⟨he, v', S', ⟨⟨F', rv', L', tv', mv', T', hp, fun k q => ?_, by omega, by omega⟩, by omega, hs.bel h.bel (fun k hk => (f k hk).1), fun k q => ?_⟩, fun S0 g ol => ol.pw hA pw hp.ar, pw, hs.size⟩
  · rcases hs.sub k q with q | q
    · exact f k q
    · exact ⟨Nat.le_trans h.bel.size q, fun z => by have := (h.kq k z).1; omega⟩
  · obtain ⟨l1, e1⟩ := h.kq k q
    exact ⟨Nat.lt_of_lt_of_le l1 hs.size, (hs.block k l1 (fun z => (f k z).2 q)).trans e1⟩
end
end Go.Proofs.Ytbhjpahieghepaa
