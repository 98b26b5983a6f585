/-
  For PaceKeeps: a plan copied onto an empty row; what is kept of the plans while others are made.
  KEEP: cells fz mp set2 formed_any beat_run walk putObj alloc same block size os tape output mono lt own new keep conf rest clr below grown step no yes done rd nil form on
-/
import Derived.Test.YthmejmnbbbiemaaAparE
set_option linter.unusedSimpArgs false
set_option linter.unusedVariables false
namespace Go.Proofs.Ythmejmnbbbiemaa
open Go Go.RowKit Go.Shelf

theorem own_emptyB (w : World) : OwnB w.heap.size (w.alloc (.cells #[] 44)) (.slice (some ⟨w.heap.size, 0, none⟩) 0 0) [] :=
  World.ownsRow_lit w #[] 0 (Nat.le_refl _) (by unfold maxLen; omega) (by simp)
theorem run_append_none13 {P : Program} (w : World) (base : Nat) (t ty e : TypeId) (i : TypeInfo) (size c : Nat) (ht : P.underlying t = some (.slice e)) (hi : P.info? e = some i)
    (v : Value) (n : Nat) (xs : List Value) (hown : w.ownsRow base e size v n xs) : (Builtin.append_ #[t, t] ty #[v, .slice none 0 c]).run P w = .ok v w := by
  rcases hown.2 with ⟨rfl, rfl⟩ | ⟨g, cap, cur, rfl, _, _, hnc, _⟩
  · simp [Builtin.append_, run_underlying ht, sizeOf, typeInfo, hi, Builtin.lenOf, Builtin.firstCells]
  · simp [Builtin.append_, run_underlying ht, sizeOf, typeInfo, hi, Builtin.lenOf, Builtin.firstCells, hnc, storeCells]
/-- a plan's copy -/
theorem beat_copy {W : World} {base : Nat} {v : Value} {L : List (Int × Bool)} (h : OwnB base W v L) (hL : L.length ≤ 1099511627776) :
    ∃ a' c' w', (appAct #[.slice (some ⟨W.heap.size, 0, none⟩) 0 0, v]).run Try.prog (W.alloc (.cells #[] 44)) = .ok (.slice a' L.length c') w' ∧
      Hid (OwnB W.heap.size w' (.slice a' L.length c') L ∧ Below W.heap.size W w') := by
  obtain ⟨i, hi, hz0, hz1, hz2⟩ := info_parts infoBt
  have hE := own_emptyB W
  have hb := below_new W (.cells #[] 44)
  have h' := h.below hb
  have hsz : W.heap.size ≤ (W.alloc (.cells #[] 44)).heap.size := hb.size
  rcases h'.2 with ⟨rfl, h0⟩ | ⟨g, cap, cur, rfl, _⟩
  · have hL0 : L = [] := List.eq_nil_of_length_eq_zero h0
    subst hL0
    exact ⟨_, _, _, run_append_none13 (P := Try.prog) _ W.heap.size 25 25 44 i 2 0 Try.underlying25 hi _ 0 [] hE, hE, hb⟩
  · obtain ⟨v', w', h1, h2, h3, _, h4⟩ := run_append_own_at (P := Try.prog) (W.alloc (.cells #[] 44)) W.heap.size 25 25 44 i (.agg #[.int .i64 0, .bool false]) 2 16 Try.underlying25 hi hz0 hz1 hz2 rfl (by omega)
      (.slice (some ⟨W.heap.size, 0, none⟩) 0 0) 0 [] hE ⟨g, 0, none⟩ L.length cap (btC L) (btC_len L) (World.ownsRow.cells h' rfl) (btC_cell1 L) (by unfold maxLen; omega) (by omega) hsz
    have h2' : OwnB W.heap.size w' v' L := by
      unfold OwnB
      simpa using h2
    obtain ⟨a', c', hf⟩ := h2'.form
    subst hf
    exact ⟨a', c', w', h1, h2', hb.grown h3 hsz (fun q e => by cases e; exact Nat.le_refl _)⟩

/-- what PaceKeeps keeps: the two configs' boxes, and rows of Beats (each with its lowest block, and a block above it) -/
structure Kp (w : World) (b f g : Int) (d : Nat) (p u b1 f1 g1 : Int) (d1 : Nat) (p1 u1 : Int) (rs : List (Nat × Nat × Value × List (Int × Bool))) (W : World) : Prop where
  c0 : Cb W w.heap.size b f g d p u
  c1 : Cb W (w.heap.size + 1) b1 f1 g1 d1 p1 u1
  bel : Below w.heap.size w W
  rows : ∀ r ∈ rs, OwnB r.1 W r.2.2.1 r.2.2.2 ∧ (∀ q, r.2.2.1.ownBlock = some q → q < r.2.1) ∧ r.2.1 ≤ W.heap.size ∧ w.heap.size + 2 ≤ r.1
section
variable {w : World} {b f g : Int} {d : Nat} {p u b1 f1 g1 : Int} {d1 : Nat} {p1 u1 : Int} {rs : List (Nat × Nat × Value × List (Int × Bool))} {W W' : World}
theorem Kp.start : Kp w b f g d p u b1 f1 g1 d1 p1 u1 [] ((w.alloc (.cells #[.int .i64 b, .int .i64 f, .int .i64 g, .float .f64 d, .int .i64 p, .int .i64 u] 24)).alloc (.cells #[.int .i64 b1, .int .i64 f1, .int .i64 g1, .float .f64 d1, .int .i64 p1, .int .i64 u1] 24)) := by
  have e := World.size_alloc w (.cells #[.int .i64 b, .int .i64 f, .int .i64 g, .float .f64 d, .int .i64 p, .int .i64 u] 24)
  refine ⟨(Cb.new _ _ _ _ _ _ _).on (below_new _ _) (by rw [e]; omega), ?_, (below_new _ _).next (below_new _ _) (Nat.le_refl _), fun r hr => by cases hr⟩
  have := Cb.new (w.alloc (.cells #[.int .i64 b, .int .i64 f, .int .i64 g, .float .f64 d, .int .i64 p, .int .i64 u] 24)) b1 f1 g1 d1 p1 u1
  rwa [e] at this
theorem Kp.on (h : Kp w b f g d p u b1 f1 g1 d1 p1 u1 rs W) (hb : Below W.heap.size W W') : Kp w b f g d p u b1 f1 g1 d1 p1 u1 rs W' :=
  ⟨h.c0.on hb h.c0.lt, h.c1.on hb h.c1.lt, h.bel.next hb (Nat.le_refl _), fun r hr => ⟨(h.rows r hr).1.below hb, (h.rows r hr).2.1, Nat.le_trans (h.rows r hr).2.2.1 hb.size, (h.rows r hr).2.2.2⟩⟩
/-- a new row -/
theorem Kp.add (h : Kp w b f g d p u b1 f1 g1 d1 p1 u1 rs W) (hb : Below W.heap.size W W') {v : Value} {L : List (Int × Bool)} (ho : OwnB W.heap.size W' v L) : Kp w b f g d p u b1 f1 g1 d1 p1 u1 (rs ++ [(W.heap.size, W'.heap.size, v, L)]) W' := by
  have h' := h.on hb
  refine ⟨h'.c0, h'.c1, h'.bel, fun r hr => ?_⟩
  rcases List.mem_append.1 hr with hr | hr
  · exact h'.rows r hr
  · simp at hr
    subst hr
    exact ⟨ho, fun q e => (ho.lt q e).2, Nat.le_refl _, by have := h.c1.lt; show _ ≤ W.heap.size; omega⟩
/-- a Pace that is asked -/
theorem Kp.mp {s n N : Nat} (h : Kp w b f g d p u b1 f1 g1 d1 p1 u1 rs W) (hm : Mp s n W W') (hs : ∀ r ∈ rs, r.2.1 ≤ s) (hw : w.heap.size + 2 ≤ s) : Kp w b f g d p u b1 f1 g1 d1 p1 u1 rs W' :=
  ⟨h.c0.mp hm (by omega), h.c1.mp hm (by omega), hm.low h.bel h.bel.size (by omega), fun r hr => ⟨(h.rows r hr).1.keep fun q e => hm.block q ((h.rows r hr).1.lt q e).2 (.inl (by have := (h.rows r hr).2.1 q e; have := hs r hr; omega)), (h.rows r hr).2.1, Nat.le_trans (h.rows r hr).2.2.1 hm.size, (h.rows r hr).2.2.2⟩⟩
end
end Go.Proofs.Ythmejmnbbbiemaa
