/-
  ArenaLives: a whole row onto nil.
  KEEP: set on app at below new trans refl start ap kept rd rds mono own row cells lt box lo ml ms c0 f0 form max find eq ma some none more map keep mv c kill kst book step after block size cell alloc from same bx pw
-/
import Derived.Test.YtbhjpahieghepaaKAo5
import Derived.Test.YtbhjpahieghepaaConcat
set_option linter.unusedSimpArgs false
set_option linter.unusedVariables false
namespace Go.Proofs.Ytbhjpahieghepaa
open Go Go.RowKit Go.Maps

/-- a row of the call's own, all of it, onto nil -/
theorem run_append_row {P : Program} (w : World) (B : Nat) (t ty e : TypeId) (i : TypeInfo) (z : Value) (size bytes : Nat) (h1 : P.underlying t = some (.slice e)) (h2 : P.info? e = some i) (h3 : i.zero = some z) (h4 : i.size = size) (h5 : i.bytes = bytes) (h6 : z.cells.size = size) (h7 : 0 < size)
    (la : Option Addr) (m c : Nat) (news : List Value) (hr : w.ownsRow B e size (.slice la m c) m news) (h1c : ∀ u ∈ news, u.oneCell' = true) (b1 : m ≤ maxLen) (b2 : m * bytes ≤ 140737488355328) :
    ∃ v' w', (Builtin.append_ #[t, t] ty #[.slice none 0 0, .slice la m c]).run P w = .ok v' w' ∧ w'.ownsRow w.heap.size e size v' m news ∧ Below w.heap.size w w' := by
  have hnil : w.ownsRow w.heap.size e size (.slice none 0 0) 0 [] := World.ownsRow_nil _ _ _ _
  rcases hr.2 with ⟨e1, e2⟩ | ⟨g, cap, cur, e1, _⟩
  · injection e1 with e3 e4 e5
    subst e3 e4 e5
    obtain rfl : news = [] := by
      have := hr.1
      rw [Nat.zero_mul] at this
      exact List.eq_nil_of_length_eq_zero this
    refine ⟨_, w, ?_, hnil, Below.refl _ _⟩
    simp [Builtin.append_, run_underlying h1, sizeOf, typeInfo, h2, Builtin.lenOf, Builtin.firstCells]
  · injection e1 with e3 e4 e5
    subst e3
    obtain ⟨v', w', q1, q2, q3, _⟩ := run_append_own (P := P) w w.heap.size t ty e i z size bytes h1 h2 h3 h4 h5 h6 h7 (.slice none 0 0) 0 [] hnil ⟨g, 0, none⟩ m c news hr.1 (hr.cells (g := g) rfl) h1c (by omega) (by rw [Nat.zero_add]; exact b2) (Nat.le_refl _)
    refine ⟨v', w', q1, by simpa using q2, (Below.refl _ _).grown q3 (Nat.le_refl _) (fun j hj => by cases hj)⟩
theorem step_append_row {P : Program} {ops : Array Oper} {o : Oper} {a : Act} {w : World} {K : Act → World → Prop} {Q : Exit → Act → World → Prop} {E : Prop}
    (hg : o.guard = none) (s x : Operand) (t : TypeId) (hop : o.op = Op.call { callee := Callee.builtin Builtin.append, args := #[s, x], argTypes := #[t, t] })
    (B : Nat) (e : TypeId) (i : TypeInfo) (z : Value) (size bytes : Nat) (h1 : P.underlying t = some (.slice e)) (h2 : P.info? e = some i) (h3 : i.zero = some z) (h4 : i.size = size) (h5 : i.bytes = bytes) (h6 : z.cells.size = size) (h7 : 0 < size)
    (la : Option Addr) (m c : Nat) (news : List Value) (hs : a.eval s = .slice none 0 0) (hx : a.eval x = .slice la m c) (hr : w.ownsRow B e size (.slice la m c) m news) (h1c : ∀ u ∈ news, u.oneCell' = true) (b1 : m ≤ maxLen) (b2 : m * bytes ≤ 140737488355328)
    (hK : ∀ v' w', w'.ownsRow w.heap.size e size v' m news → Below w.heap.size w w' → K (a.put o.dst v') w') :
    if Region.wanted o (yielded ops a.tmps) = true then Oper.wp P o a w K Q else E := by
  have hw : Region.wanted o (yielded ops a.tmps) = true := by simp [Region.wanted, hg]
  rw [if_pos hw]
  obtain ⟨v', w', hrun, r1, r2⟩ := run_append_row (P := P) w B t o.type e i z size bytes h1 h2 h3 h4 h5 h6 h7 la m c news hr h1c b1 b2
  unfold Oper.wp
  simp [execOp, hop, resolve, invoke, builtin, hs, hx, hrun, Result.andThen]
  exact hK v' w' r1 r2
theorem rowsM_one {B : Nat} {w : World} {L : List Mt} (h : ∀ x ∈ L, Own B w x.1 x.2.lits) : ∀ u ∈ rowsM L, u.oneCell' = true := by
  intro u hu
  unfold rowsM at hu
  obtain ⟨x, hx, hu⟩ := List.mem_flatMap.1 hu
  simp only [List.mem_cons, List.not_mem_nil, or_false] at hu
  rcases hu with rfl | rfl | rfl | rfl
  · rfl
  · obtain ⟨a, c, e⟩ := row_form (h x hx)
    rw [e]; rfl
  · rfl
  · rfl
/-- the document's Live, later -/
theorem on_same2 {w W : World} {D b m N : Nat} {v : Value} {S : List Seg} (h : On w W D b m N v S) (hN : N ≤ 1099511627776) :
    ∃ L : List Mt, (L.map fun x => (x.2.pl, x.2.lits)) = rdL (lv 0 S) ∧ (∀ x ∈ L, Own 0 W x.1 x.2.lits) ∧ ∀ W', Below W.heap.size W W' → Calls Try.prog 7 #[.pointer (some ⟨m, 0, none⟩)] W' fun e w' => ∃ a c, e = .returned (.slice a L.length c) ∧ w'.ownsRow W'.heap.size 43 4 (.slice a L.length c) L.length (rowsM L) ∧ Below W'.heap.size W' w' := by
  obtain ⟨F, rv, L, tv, mv, T, p, f, n1, n2⟩ := h.ex
  refine ⟨lvM L, ?_, fun x hx => p.mz.ma.ml.own x (lvM_mem hx), fun W' hW => (mLive_any 0 m rv L W' (p.below hW).mz.ma (by omega)).mono fun e w' ⟨a, c, he, lr, hb⟩ => ⟨a, c, he, lr, hb⟩⟩
  have h1 := live_lv S 0
  have h2 := congrArg (List.map fun x : Mc => (x.pl, x.lits)) (lvM_snd L)
  rw [p.mz.eq] at h2
  rw [List.map_map] at h2
  unfold rdL
  rw [← h1, List.map_map]
  exact h2
/-- behind want: seq's box at B, want's behind it -/
structure Wt (w3 W : World) (Bl : Nat) (M : List Mt) : Prop where
  bel : Below w3.heap.size w3 W
  sb : W.heap[w3.heap.size]? = some (.cells #[.func (.func 28) #[] #[.pointer (some ⟨Bl, 0, none⟩)]] 39 (0, 0))
  ex : ∃ za zc, W.heap[w3.heap.size + 1]? = some (.cells #[.slice za M.length zc] 36 (0, 0)) ∧ W.ownsRow (w3.heap.size + 2) 43 4 (.slice za M.length zc) M.length (rowsM M)
theorem Wt.put {w3 W4 wz : World} {Bl B : Nat} {M : List Mt} {za : Option Addr} {zc : Nat} (h4 : Below w3.heap.size w3 W4) (hs : W4.heap[w3.heap.size]? = some (.cells #[.func (.func 28) #[] #[.pointer (some ⟨Bl, 0, none⟩)]] 39 (0, 0))) (hw : W4.heap[w3.heap.size + 1]? = some (.cells #[.slice none 0 0] 36 (0, 0))) (hb : Below W4.heap.size W4 wz) (hB : W4.heap.size ≤ B) (hr : wz.ownsRow B 43 4 (.slice za M.length zc) M.length (rowsM M)) : Wt w3 (wz.setCell ⟨w3.heap.size + 1, 0, none⟩ (.slice za M.length zc)) Bl M := by
  have l1 := (Array.getElem?_eq_some_iff.1 hw).1
  have l0 := (Array.getElem?_eq_some_iff.1 hs).1
  have hg := grown_set wz ⟨w3.heap.size + 1, 0, none⟩ (.slice za M.length zc)
  refine ⟨(Below.step h4 hb).setCell (p := ⟨w3.heap.size + 1, 0, none⟩) (by simp) _, ?_, za, zc, ?_, ?_⟩
  · exact (hg.block _ (Nat.lt_of_lt_of_le l0 hb.size) (by simp)).trans ((hb.block _ l0).trans hs)
  · exact set_heap4 ((hb.block _ l1).trans hw) 0 _
  · have hr2 := row_kept4 hr (w' := wz.setCell ⟨w3.heap.size + 1, 0, none⟩ (.slice za M.length zc)) fun k e => hg.block k (World.ownsRow.lt hr k e).2 (by intro q; have q' : k = w3.heap.size + 1 := (by simpa using q); have := (World.ownsRow.lt hr k e).1; omega)
    exact ⟨hr2.1, hr2.2.elim .inl fun ⟨g, cap, cur, e1, e2, e3⟩ => .inr ⟨g, cap, cur, e1, by omega, e3⟩⟩
end Go.Proofs.Ytbhjpahieghepaa
