/-
  depotref01.Resolvents, walked: a row of pairs.
-/
import Derived.Test.YthplkllphpnaoaaRefD
import Derived.Test.YthplkllphpnaoaaNumB
import Derived.Test.YthplkllphpnaoaaReso
import Derived.Maps.AppendAt
set_option linter.unusedSimpArgs false
set_option linter.unusedVariables false
namespace Go.Proofs.Ythplkllphpnaoaa
open Go Go.RowKit Go.Shelf

attribute [local go_sem] Oper.semAt_some

theorem Try.info43 : (Try.prog.info? 43).map (fun i => (i.zero, i.size, i.bytes)) = some (some (.agg #[.int .i64 0, .slice none 0 0]), 2, 32) := by kernel_rfl

/-- the cells of a row of pairs -/
def prow (ws : List Itm) : List Value := ws.flatMap (fun x => [.int .i64 x.1, x.2.1])
theorem prow_snoc (ws : List Itm) (x : Itm) : prow (ws ++ [x]) = prow ws ++ [.int .i64 x.1, x.2.1] := by unfold prow; simp
theorem prow_len (ws : List Itm) : (prow ws).length = ws.length * 2 := by unfold prow; induction ws with | nil => rfl | cons x r ih => simp [List.flatMap_cons, ih]; omega
/-- a row of pairs of the call's own, its lists too -/
def OwnP (base : Nat) (w : World) (v : Value) (ws : List Itm) : Prop :=
  w.ownsRow base 43 2 v ws.length (prow ws) ∧ ∀ x ∈ ws, Own base w x.2.1 x.2.2 ∧ x.2.2.length ≤ 2097152
theorem ownsRow_below {base : Nat} {e size : Nat} {w w' : World} {v : Value} {n : Nat} {xs : List Value} (h : w.ownsRow base e size v n xs) (hb : Below w.heap.size w w') : w'.ownsRow base e size v n xs := by
  refine ⟨h.1, ?_⟩
  rcases h.2 with hn | ⟨g, cap, cur, hv, hb', hh, r⟩
  · exact .inl hn
  · exact .inr ⟨g, cap, cur, hv, hb', by rw [hb.block g (Array.getElem?_eq_some_iff.1 hh).1]; exact hh, r⟩
theorem ownsRow_mono {base base' : Nat} {e size : Nat} {w : World} {v : Value} {n : Nat} {xs : List Value} (h : w.ownsRow base e size v n xs) (hb : base' ≤ base) : w.ownsRow base' e size v n xs := by
  refine ⟨h.1, ?_⟩
  rcases h.2 with hn | ⟨g, cap, cur, hv, hb', hh, r⟩
  · exact .inl hn
  · exact .inr ⟨g, cap, cur, hv, Nat.le_trans hb hb', hh, r⟩
theorem OwnP.below {base : Nat} {w w' : World} {v : Value} {ws : List Itm} (h : OwnP base w v ws) (hb : Below w.heap.size w w') : OwnP base w' v ws :=
  ⟨ownsRow_below h.1 hb, fun x hx => ⟨(h.2 x hx).1.below hb, (h.2 x hx).2⟩⟩
theorem OwnP.mono {base base' : Nat} {w : World} {v : Value} {ws : List Itm} (h : OwnP base w v ws) (hb : base' ≤ base) : OwnP base' w v ws :=
  ⟨ownsRow_mono h.1 hb, fun x hx => ⟨(h.2 x hx).1.mono hb, (h.2 x hx).2⟩⟩
theorem OwnP.nil (base : Nat) (w : World) : OwnP base w (.slice none 0 0) [] := ⟨World.ownsRow_nil _ _ _ _, fun x hx => by cases hx⟩
/-- a row of numbers lies in another block than a row of pairs -/
theorem own_apart {base base' : Nat} {w w' : World} {v u : Value} {zs : List Int} {n : Nat} {xs : List Value} (h : Own base w v zs) (hu : w.ownsRow base' 43 2 u n xs) (hg : w.grownBy w' u.ownBlock) : Own base w' v zs := by
  refine ⟨h.1, ?_⟩
  rcases h.2 with hn | ⟨g, cap, cur, hv, hb', hh, r⟩
  · exact .inl hn
  · refine .inr ⟨g, cap, cur, hv, hb', ?_, r⟩
    rw [hg.block g (Array.getElem?_eq_some_iff.1 hh).1 (fun e => ?_)]
    · exact hh
    · rcases hu.2 with ⟨hn, _⟩ | ⟨g', cap', cur', hv', _, hh', _⟩
      · subst hn; cases e
      · subst hv'
        have e' : g' = g := by simpa [Value.ownBlock] using e.symm
        subst e'
        rw [hh] at hh'
        cases hh'
theorem cell_two_new (w : World) (x y : Value) (t : TypeId) : ∀ j u, [x, y][j]? = some u → (w.alloc (.cells #[x, y] t)).cell? ((⟨w.heap.size, 0, none⟩ : Addr).add j) = some u := by
  intro j u hj
  match j, hj with
  | 0, hj => simp at hj; subst hj; simp [Addr.add]
  | 1, hj => simp at hj; subst hj; simp [Addr.add]
/-- behind an append of a pair -/
theorem ownP_grow {base : Nat} {w1 w2 : World} {u v2 : Value} {ws : List Itm} {v : Int} {r : Value} {L : List Int} (h : OwnP base w1 u ws) (hr : Own base w1 r L) (hl : L.length ≤ 2097152) (hg : w1.grownBy w2 u.ownBlock)
    (own2 : w2.ownsRow base 43 2 v2 (ws.length + 1) (prow ws ++ [.int .i64 v, r])) : OwnP base w2 v2 (ws ++ [(v, r, L)]) := by
  refine ⟨?_, fun x hx => ?_⟩
  · rw [prow_snoc, List.length_append]; exact own2
  · rcases List.mem_append.1 hx with hx | hx
    · exact ⟨own_apart (h.2 x hx).1 h.1 hg, (h.2 x hx).2⟩
    · simp at hx; subst hx
      exact ⟨own_apart hr h.1 hg, hl⟩

end Go.Proofs.Ythplkllphpnaoaa
