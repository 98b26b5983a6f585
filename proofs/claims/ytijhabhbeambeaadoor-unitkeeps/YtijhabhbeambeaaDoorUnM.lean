/-
  unit: the closing as it lies in memory.
  KEEP: set on app at below new trans refl start ap kept rd rds mono lt add none own nil put len pos setF setV putL putR other neV same_any
-/
import Derived.Test.YtijhabhbeambeaaDoorUnT
import Derived.Test.YtijhabhbeambeaaDoorUnC
set_option linter.unusedSimpArgs false
set_option linter.unusedVariables false
namespace Go.Proofs.YtijhabhbeambeaaDoor
open Go Go.RowKit

def Ty (W : World) (g : Nat) (e : TypeId) : Prop := ∃ c f, W.heap[g]? = some (.cells c e f)
theorem Ty.unique {W : World} {g : Nat} {e e' : TypeId} (h : Ty W g e) (h' : Ty W g e') : e = e' := by
  obtain ⟨c, f, h⟩ := h
  obtain ⟨c', f', h'⟩ := h'
  rw [h] at h'
  injection h' with h'
  injection h'
theorem row_ty {W : World} {B e s n : Nat} {v : Value} {xs : List Value} (h : W.ownsRow B e s v n xs) {k : Nat} (hk : some k = v.ownBlock) : Ty W k e := by
  rcases h.2 with ⟨rfl, _⟩ | ⟨g, cap, cur, rfl, _, hg, _⟩
  · simp [Value.ownBlock] at hk
  · have : k = g := by simpa [Value.ownBlock] using hk
    subst this
    exact ⟨_, _, hg⟩
theorem row_other {W W' : World} {row : Option Nat} {B e e' s n : Nat} {v : Value} {xs : List Value} (h : W.ownsRow B e' s v n xs) (hg : W.grownBy W' row) (ht : ∀ g, row = some g → Ty W g e) (hne : e' ≠ e) : W'.ownsRow B e' s v n xs :=
  row_kept h fun k hk => hg.block k (h.lt k hk.symm).2 fun e1 => hne ((row_ty h hk).unique (ht k e1.symm))
theorem wq_ty {B : Nat} {W : World} {v : Value} {fs : List Value} {N : Nat} {Q : Nat → Bool} (h : Wq B W v fs N Q) {k : Nat} (hk : wown v fs k) : Ty W k 92 ∨ Ty W k 93 := by
  obtain ⟨Ls, rfl, hw, _⟩ := h
  rcases hk with hk | ⟨f, hf, hk⟩
  · exact .inl (row_ty hw.row hk)
  · obtain ⟨c, hc, rfl⟩ := List.mem_map.1 hf
    exact .inr (row_ty (hw.lv c hc) hk)
theorem wq_other {B : Nat} {W W' : World} {row : Option Nat} {v : Value} {fs : List Value} {N : Nat} {Q : Nat → Bool} {e : TypeId} (h : Wq B W v fs N Q) (hg : W.grownBy W' row) (ht : ∀ g, row = some g → Ty W g e) (h1 : 92 ≠ e) (h2 : 93 ≠ e) : Wq B W' v fs N Q :=
  h.kept fun k hk => hg.block k (h.lt k hk).2 fun e1 => by
    rcases wq_ty h hk with a | a
    · exact h1 (a.unique (ht k e1.symm))
    · exact h2 (a.unique (ht k e1.symm))
theorem Mo.grown {W W' : World} {row : Option Nat} {P : Nat → Prop} (hg : W.grownBy W' row) (h : ∀ g, row = some g → P g) : Mo W P W' P :=
  ⟨hg.os, hg.tape, hg.output, hg.size, fun k hk hn => hg.block k hk fun e => hn (h k e.symm), fun _ h => .inl h⟩

structure Sz where
  C : Value
  I : Value
  E : Value
  F : Value
  P : Value
  W : Value
  S : Value
  L : List Value
def Sz.own (s : Sz) (b k : Nat) : Prop := k = b ∨ some k = s.I.ownBlock ∨ some k = s.E.ownBlock ∨ some k = s.F.ownBlock ∨ some k = s.P.ownBlock ∨ some k = s.S.ownBlock ∨ wown s.W s.L k
def i32s (xs : List Int) : List Value := xs.map (Value.int .i32)
def twp (P : List (Nat × Nat)) : List Value := P.flatMap fun c => [.int .i32 (c.1 : Int), .int .i32 (c.2 : Int)]
def twc (cs : List (Int × Nat)) : List Value := cs.flatMap fun c => [.int .i64 c.1, .int .i64 (c.2 : Int)]
theorem flat2_at {α : Type} (f g : α → Value) : ∀ (P : List α) (p : Nat) (x : α), P[p]? = some x → (P.flatMap fun c => [f c, g c])[p * 2]? = some (f x) ∧ (P.flatMap fun c => [f c, g c])[p * 2 + 1]? = some (g x)
  | [], p, x, h => by simp at h
  | y :: r, 0, x, h => by
    have e : y = x := by simpa using h
    subst e; simp
  | y :: r, p + 1, x, h => by
    have := flat2_at f g r p x (by simpa using h)
    rw [List.flatMap_cons, Nat.succ_mul]
    simpa using this
theorem flat2_len {α : Type} (f g : α → Value) (P : List α) : (P.flatMap fun c => [f c, g c]).length = P.length * 2 := by
  induction P with
  | nil => rfl
  | cons y r ih => rw [List.flatMap_cons, List.length_append, ih]; simp; omega
theorem twp_at {P : List (Nat × Nat)} {p k q : Nat} (h : P[p]? = some (k, q)) : (twp P)[p * 2]? = some (.int .i32 (k : Int)) ∧ (twp P)[p * 2 + 1]? = some (.int .i32 (q : Int)) := flat2_at _ _ P p _ h
theorem twc_at {P : List (Int × Nat)} {p : Nat} {l : Int} {k : Nat} (h : P[p]? = some (l, k)) : (twc P)[p * 2]? = some (.int .i64 l) ∧ (twc P)[p * 2 + 1]? = some (.int .i64 (k : Int)) := flat2_at _ _ P p _ h
/-- a closing as it lies -/
structure Cz (B : Nat) (W : World) (b : Nat) (s : Sz) (n N : Nat) (A : List Bool) (E : List Int) (F : List Nat) (P : List (Nat × Nat)) (Q : Nat → Bool) (cs : List (Int × Nat)) : Prop where
  box : W.heap[b]? = some (.cells #[s.C, s.I, s.E, s.F, s.P, s.W, s.S] 71 (0, 0))
  hb : B ≤ b
  i : W.ownsRow B 4 1 s.I n (A.map Value.bool)
  e : W.ownsRow B 21 1 s.E N (i32s E)
  f : W.ownsRow B 21 1 s.F n (i32s (F.map fun (x : Nat) => (x : Int)))
  p : W.ownsRow B 88 2 s.P P.length (twp P)
  w : Wq B W s.W s.L N Q
  c : W.ownsRow B 78 2 s.S cs.length (twc cs)
  ef : ∀ k, some k = s.E.ownBlock → some k ≠ s.F.ownBlock
section
variable {B : Nat} {W W' : World} {b : Nat} {s : Sz} {n N : Nat} {A : List Bool} {E : List Int} {F : List Nat} {P : List (Nat × Nat)} {Q : Nat → Bool} {cs : List (Int × Nat)}
theorem Cz.ty (h : Cz B W b s n N A E F P Q cs) : Ty W b 71 := ⟨_, _, h.box⟩
theorem Cz.blt (h : Cz B W b s n N A E F P Q cs) : b < W.heap.size := (Array.getElem?_eq_some_iff.1 h.box).1
theorem Cz.lt (h : Cz B W b s n N A E F P Q cs) : ∀ k, s.own b k → B ≤ k ∧ k < W.heap.size := by
  rintro k (rfl | hk | hk | hk | hk | hk | hk)
  · exact ⟨h.hb, h.blt⟩
  · exact h.i.lt k hk.symm
  · exact h.e.lt k hk.symm
  · exact h.f.lt k hk.symm
  · exact h.p.lt k hk.symm
  · exact h.c.lt k hk.symm
  · exact h.w.lt k hk
theorem Cz.kept (h : Cz B W b s n N A E F P Q cs) (hk : ∀ k, s.own b k → W'.heap[k]? = W.heap[k]?) : Cz B W' b s n N A E F P Q cs :=
  ⟨(hk b (.inl rfl)).trans h.box, h.hb, row_kept h.i fun k e => hk k (.inr (.inl e)), row_kept h.e fun k e => hk k (.inr (.inr (.inl e))), row_kept h.f fun k e => hk k (.inr (.inr (.inr (.inl e)))), row_kept h.p fun k e => hk k (.inr (.inr (.inr (.inr (.inl e))))), h.w.kept fun k e => hk k (.inr (.inr (.inr (.inr (.inr (.inr e)))))), row_kept h.c fun k e => hk k (.inr (.inr (.inr (.inr (.inr (.inl e)))))), h.ef⟩
theorem Cz.below (h : Cz B W b s n N A E F P Q cs) (hb : Below W.heap.size W W') : Cz B W' b s n N A E F P Q cs := h.kept fun k hk => hb.block k (h.lt k hk).2
theorem Cz.cell (h : Cz B W b s n N A E F P Q cs) (j : Nat) (x : Value) (hx : #[s.C, s.I, s.E, s.F, s.P, s.W, s.S][j]? = some x) : W.cell? ⟨b, j, none⟩ = some x := by simp [World.cell?, h.box]; simpa using hx
theorem Cz.c0 (h : Cz B W b s n N A E F P Q cs) : W.cell? ⟨b, 0, none⟩ = some s.C := h.cell 0 _ rfl
theorem Cz.c1 (h : Cz B W b s n N A E F P Q cs) : W.cell? ⟨b, 1, none⟩ = some s.I := h.cell 1 _ rfl
theorem Cz.c2 (h : Cz B W b s n N A E F P Q cs) : W.cell? ⟨b, 2, none⟩ = some s.E := h.cell 2 _ rfl
theorem Cz.c3 (h : Cz B W b s n N A E F P Q cs) : W.cell? ⟨b, 3, none⟩ = some s.F := h.cell 3 _ rfl
theorem Cz.c4 (h : Cz B W b s n N A E F P Q cs) : W.cell? ⟨b, 4, none⟩ = some s.P := h.cell 4 _ rfl
theorem Cz.c5 (h : Cz B W b s n N A E F P Q cs) : W.cell? ⟨b, 5, none⟩ = some s.W := h.cell 5 _ rfl
theorem Cz.c6 (h : Cz B W b s n N A E F P Q cs) : W.cell? ⟨b, 6, none⟩ = some s.S := h.cell 6 _ rfl
theorem Cz.fz (h : Cz B W b s n N A E F P Q cs) (j : Nat) : W.frozen? ⟨b, j, none⟩ = false := by simp [World.frozen?, h.box]
theorem box_other {row : Option Nat} {e : TypeId} {o : Array Value} {t : TypeId} {f : Nat × Nat} (h : W.heap[b]? = some (.cells o t f)) (hg : W.grownBy W' row) (ht : ∀ g, row = some g → Ty W g e) (hne : t ≠ e) : W'.heap[b]? = some (.cells o t f) :=
  (hg.block b (Array.getElem?_eq_some_iff.1 h).1 (fun e1 => hne ((show Ty W b t from ⟨_, _, h⟩).unique (ht b e1.symm)))).trans h
theorem Cz.setI (h : Cz B W b s n N A E F P Q cs) {g cap k : Nat} (hv : s.I = .slice (some ⟨g, 0, none⟩) n cap) (hk : k < n) (z : Bool) : Cz B (W.setCell ⟨g, k, none⟩ (.bool z)) b s n N (A.set k z) E F P Q cs ∧ Mo W (s.own b) (W.setCell ⟨g, k, none⟩ (.bool z)) (s.own b) := by
  have hg := grown_set W ⟨g, k, none⟩ (.bool z)
  have ht : ∀ x, some g = some x → Ty W x 4 := fun x e => row_ty h.i (by rw [hv, ← e]; rfl)
  refine ⟨⟨box_other h.box hg ht (by decide), h.hb, ?_, row_other h.e hg ht (by decide), row_other h.f hg ht (by decide), row_other h.p hg ht (by decide), wq_other h.w hg ht (by decide) (by decide), row_other h.c hg ht (by decide), h.ef⟩, Mo.grown hg fun x e => .inr (.inl (by rw [hv, ← e]; rfl))⟩
  have h1 := h.i
  rw [hv] at h1 ⊢
  rw [List.map_set]
  exact own_cell h1 (by omega) _
theorem Cz.setE (h : Cz B W b s n N A E F P Q cs) {g cap k : Nat} (hv : s.E = .slice (some ⟨g, 0, none⟩) N cap) (hk : k < N) (z : Int) : Cz B (W.setCell ⟨g, k, none⟩ (.int .i32 z)) b s n N A (E.set k z) F P Q cs ∧ Mo W (s.own b) (W.setCell ⟨g, k, none⟩ (.int .i32 z)) (s.own b) := by
  have hg := grown_set W ⟨g, k, none⟩ (.int .i32 z)
  have ht : ∀ x, some g = some x → Ty W x 21 := fun x e => row_ty h.e (by rw [hv, ← e]; rfl)
  have hgE : some g = s.E.ownBlock := by rw [hv]; rfl
  refine ⟨⟨box_other h.box hg ht (by decide), h.hb, row_other h.i hg ht (by decide), ?_, row_kept h.f fun q hq => hg.block q (h.f.lt q hq.symm).2 (fun e1 => h.ef q (by rw [e1]; exact hgE) hq), row_other h.p hg ht (by decide), wq_other h.w hg ht (by decide) (by decide), row_other h.c hg ht (by decide), h.ef⟩, Mo.grown hg fun x e => .inr (.inr (.inl (by rw [hv, ← e]; rfl)))⟩
  have h1 := h.e
  rw [hv] at h1 ⊢
  have e2 : i32s (E.set k z) = (i32s E).set k (.int .i32 z) := by unfold i32s; rw [List.map_set]
  rw [e2]
  exact own_cell h1 (by omega) _
theorem Cz.setF (h : Cz B W b s n N A E F P Q cs) {g cap k : Nat} (hv : s.F = .slice (some ⟨g, 0, none⟩) n cap) (hk : k < n) (z : Nat) : Cz B (W.setCell ⟨g, k, none⟩ (.int .i32 (z : Int))) b s n N A E (F.set k z) P Q cs ∧ Mo W (s.own b) (W.setCell ⟨g, k, none⟩ (.int .i32 (z : Int))) (s.own b) := by
  have hg := grown_set W ⟨g, k, none⟩ (.int .i32 (z : Int))
  have ht : ∀ x, some g = some x → Ty W x 21 := fun x e => row_ty h.f (by rw [hv, ← e]; rfl)
  have hgF : some g = s.F.ownBlock := by rw [hv]; rfl
  refine ⟨⟨box_other h.box hg ht (by decide), h.hb, row_other h.i hg ht (by decide), row_kept h.e fun q hq => hg.block q (h.e.lt q hq.symm).2 (fun e1 => h.ef q hq (by rw [e1]; exact hgF)), ?_, row_other h.p hg ht (by decide), wq_other h.w hg ht (by decide) (by decide), row_other h.c hg ht (by decide), h.ef⟩, Mo.grown hg fun x e => .inr (.inr (.inr (.inl (by rw [hv, ← e]; rfl))))⟩
  have h1 := h.f
  rw [hv] at h1 ⊢
  have e2 : i32s ((F.set k z).map fun (x : Nat) => (x : Int)) = (i32s (F.map fun (x : Nat) => (x : Int))).set k (.int .i32 (z : Int)) := by unfold i32s; rw [List.map_set, List.map_set]
  rw [e2]
  exact own_cell h1 (by omega) _
theorem Cz.putW (h : Cz B W b s n N A E F P Q cs) {Q' : Nat → Bool} (hw : Wq B W' s.W s.L N Q') (hm : Mo W (wown s.W s.L) W' (wown s.W s.L)) : Cz B W' b s n N A E F P Q' cs ∧ Mo W (s.own b) W' (s.own b) := by
  have kb : ∀ k, k < W.heap.size → (∀ e, Ty W k e → e ≠ 92 ∧ e ≠ 93) → (∃ e, Ty W k e) → W'.heap[k]? = W.heap[k]? := fun k hk h1 ⟨e, he⟩ => hm.block k hk fun ho => by
    rcases wq_ty h.w ho with a | a
    · exact (h1 _ he).1 (he.unique a)
    · exact (h1 _ he).2 (he.unique a)
  have kr : ∀ {e sz m : Nat} {v : Value} {xs : List Value}, W.ownsRow B e sz v m xs → e ≠ 92 → e ≠ 93 → W'.ownsRow B e sz v m xs := fun {e sz m v xs} hr h1 h2 => row_kept hr fun k hk => kb k (hr.lt k hk.symm).2 (fun e' he' => by have := (row_ty hr hk).unique he'; subst this; exact ⟨h1, h2⟩) ⟨e, row_ty hr hk⟩
  refine ⟨⟨(kb b h.blt (fun e he => by have := h.ty.unique he; subst this; exact ⟨by decide, by decide⟩) ⟨_, h.ty⟩).trans h.box, h.hb, kr h.i (by decide) (by decide), kr h.e (by decide) (by decide), kr h.f (by decide) (by decide), kr h.p (by decide) (by decide), hw, kr h.c (by decide) (by decide), h.ef⟩, ?_⟩
  exact ⟨hm.os, hm.tape, hm.output, hm.size, fun k hk hn => hm.block k hk fun ho => hn (.inr (.inr (.inr (.inr (.inr (.inr ho)))))), fun _ h => .inl h⟩
/-- a field of the box is another -/
theorem set_other {b j : Nat} {v : Value} {o : Array Value} {t : TypeId} {f : Nat × Nat} (hb : W.heap[b]? = some (.cells o t f)) {e sz m : Nat} {u : Value} {xs : List Value} (h : W.ownsRow B e sz u m xs) (hne : e ≠ t) : (W.setCell ⟨b, j, none⟩ v).ownsRow B e sz u m xs :=
  row_other h (grown_set W ⟨b, j, none⟩ v) (fun g e1 => by injection e1 with e1; subst e1; exact ⟨_, _, hb⟩) hne
theorem setW_other {b j : Nat} {v : Value} {o : Array Value} {t : TypeId} {f : Nat × Nat} (hb : W.heap[b]? = some (.cells o t f)) {u : Value} {fs : List Value} (h : Wq B W u fs N Q) (h1 : 92 ≠ t) (h2 : 93 ≠ t) : Wq B (W.setCell ⟨b, j, none⟩ v) u fs N Q :=
  wq_other h (grown_set W ⟨b, j, none⟩ v) (fun g e1 => by injection e1 with e1; subst e1; exact ⟨_, _, hb⟩) h1 h2
theorem Cz.putP {W1 : World} {u : Value} {P' : List (Nat × Nat)} (h : Cz B W b s n N A E F P Q cs) (hg : W.grownBy W1 s.P.ownBlock) (hn : u.ownBlock = s.P.ownBlock ∨ ∀ g, u.ownBlock = some g → W.heap.size ≤ g) (ho : W1.ownsRow B 88 2 u P'.length (twp P')) :
    Cz B (W1.setCell ⟨b, 4, none⟩ u) b { s with P := u } n N A E F P' Q cs ∧ Mo W (s.own b) (W1.setCell ⟨b, 4, none⟩ u) (({ s with P := u } : Sz).own b) := by
  have ht : ∀ x, s.P.ownBlock = some x → Ty W x 88 := fun x e => row_ty h.p e.symm
  have hb := box_other h.box hg ht (by decide)
  refine ⟨⟨set_heap hb 4 u, h.hb, set_other hb (row_other h.i hg ht (by decide)) (by decide), set_other hb (row_other h.e hg ht (by decide)) (by decide), set_other hb (row_other h.f hg ht (by decide)) (by decide), set_other hb ho (by decide), setW_other hb (wq_other h.w hg ht (by decide) (by decide)) (by decide) (by decide), set_other hb (row_other h.c hg ht (by decide)) (by decide), h.ef⟩, ?_⟩
  have hs := grown_set W1 ⟨b, 4, none⟩ u
  refine ⟨hs.os.trans hg.os, hs.tape.trans hg.tape, hs.output.trans hg.output, Nat.le_trans hg.size hs.size, fun i hi h1 => ?_, ?_⟩
  · exact (hs.block i (Nat.lt_of_lt_of_le hi hg.size) (fun e1 => h1 (.inl (by simpa using e1)))).trans (hg.block i hi (fun e1 => h1 (.inr (.inr (.inr (.inr (.inl e1)))))))
  · rintro k (hk | hk | hk | hk | hk | hk | hk)
    · exact .inl (.inl hk)
    · exact .inl (.inr (.inl hk))
    · exact .inl (.inr (.inr (.inl hk)))
    · exact .inl (.inr (.inr (.inr (.inl hk))))
    · rcases hn with e | e
      · exact .inl (.inr (.inr (.inr (.inr (.inl (by rw [← e]; exact hk))))))
      · exact .inr (e k hk.symm)
    · exact .inl (.inr (.inr (.inr (.inr (.inr (.inl hk))))))
    · exact .inl (.inr (.inr (.inr (.inr (.inr (.inr hk))))))
theorem Cz.putS {W1 : World} {u : Value} {cs' : List (Int × Nat)} (h : Cz B W b s n N A E F P Q cs) (hg : W.grownBy W1 s.S.ownBlock) (hn : u.ownBlock = s.S.ownBlock ∨ ∀ g, u.ownBlock = some g → W.heap.size ≤ g) (ho : W1.ownsRow B 78 2 u cs'.length (twc cs')) :
    Cz B (W1.setCell ⟨b, 6, none⟩ u) b { s with S := u } n N A E F P Q cs' ∧ Mo W (s.own b) (W1.setCell ⟨b, 6, none⟩ u) (({ s with S := u } : Sz).own b) := by
  have ht : ∀ x, s.S.ownBlock = some x → Ty W x 78 := fun x e => row_ty h.c e.symm
  have hb := box_other h.box hg ht (by decide)
  refine ⟨⟨set_heap hb 6 u, h.hb, set_other hb (row_other h.i hg ht (by decide)) (by decide), set_other hb (row_other h.e hg ht (by decide)) (by decide), set_other hb (row_other h.f hg ht (by decide)) (by decide), set_other hb (row_other h.p hg ht (by decide)) (by decide), setW_other hb (wq_other h.w hg ht (by decide) (by decide)) (by decide) (by decide), set_other hb ho (by decide), h.ef⟩, ?_⟩
  have hs := grown_set W1 ⟨b, 6, none⟩ u
  refine ⟨hs.os.trans hg.os, hs.tape.trans hg.tape, hs.output.trans hg.output, Nat.le_trans hg.size hs.size, fun i hi h1 => ?_, ?_⟩
  · exact (hs.block i (Nat.lt_of_lt_of_le hi hg.size) (fun e1 => h1 (.inl (by simpa using e1)))).trans (hg.block i hi (fun e1 => h1 (.inr (.inr (.inr (.inr (.inr (.inl e1))))))))
  · rintro k (hk | hk | hk | hk | hk | hk | hk)
    · exact .inl (.inl hk)
    · exact .inl (.inr (.inl hk))
    · exact .inl (.inr (.inr (.inl hk)))
    · exact .inl (.inr (.inr (.inr (.inl hk))))
    · exact .inl (.inr (.inr (.inr (.inr (.inl hk)))))
    · rcases hn with e | e
      · exact .inl (.inr (.inr (.inr (.inr (.inr (.inl (by rw [← e]; exact hk)))))))
      · exact .inr (e k hk.symm)
    · exact .inl (.inr (.inr (.inr (.inr (.inr (.inr hk))))))
end
/-- a formula whose literals' places are noted: n is twice a variable that is at least the greatest one -/
structure Fit (X : List (List Int)) (n : Nat) : Prop where
  hn : n ≤ 2097152
  ev : n % 2 = 0
  num : X.length ≤ 1073741824
  len : ∀ c ∈ X, c.length ≤ 1073741824
  lit : ∀ c ∈ X, ∀ l ∈ c, fmd l = true ∧ idx l < n
theorem idx_neg_lt {l : Int} {n : Nat} (hf : fmd l = true) (hev : n % 2 = 0) (h : idx l < n) : idx (-l) < n := by
  have hn := fmd_neg hf
  have hr := fmd_range hf
  rcases (show 0 < l ∨ l < 0 by omega) with hs | hs
  · rw [(there_pos hf hs).1] at h; rw [(there_neg hn (by omega)).1]; omega
  · rw [(there_neg hf hs).1] at h; rw [(there_pos hn (by omega)).1]; omega
/-- a closing that has come to L -/
structure Cw (w0 W : World) (b : Nat) (s : Sz) (n : Nat) (X : List (List Int)) (L : List Int) (Q : Nat → Bool) (cs : List (Int × Nat)) : Prop where
  bel : Below w0.heap.size w0 W
  fit : Fit X n
  z : ∃ F P, Cz w0.heap.size W b s n X.length (inLs n L) (lefts X L) F P Q cs ∧ Pls X n F P ∧ P.length ≤ 2147483648
section
variable {w0 W W' : World} {b : Nat} {s s' : Sz} {n : Nat} {X X' : List (List Int)} {L L' : List Int} {Q Q' : Nat → Bool} {cs cs' : List (Int × Nat)}
theorem Cw.lt (h : Cw w0 W b s n X L Q cs) : ∀ k, s.own b k → w0.heap.size ≤ k ∧ k < W.heap.size := by
  obtain ⟨F, P, hz, _⟩ := h.z
  exact hz.lt
theorem Cw.below (h : Cw w0 W b s n X L Q cs) (hb : Below W.heap.size W W') : Cw w0 W' b s n X L Q cs := by
  obtain ⟨F, P, hz, hp⟩ := h.z
  exact ⟨Below.step h.bel hb, h.fit, F, P, hz.below hb, hp⟩
theorem Cw.congr (h : Cw w0 W b s n X L Q cs) (hL : ∀ x, fmd x = true → idx x < n → (x ∈ L ↔ x ∈ L')) : Cw w0 W b s n X L' Q cs := by
  obtain ⟨F, P, hz, hp⟩ := h.z
  refine ⟨h.bel, h.fit, F, P, ?_, hp⟩
  rw [← inLs_congr h.fit.hn hL]
  have : lefts X L = lefts X L' := by
    unfold lefts
    apply List.map_congr_left
    intro c hc
    congr 1
    refine cnt_congr (fun _ => Iff.rfl) fun x hx => ?_
    have := h.fit.lit c hc x hx
    exact hL _ (fmd_neg this.1) (idx_neg_lt this.1 h.fit.ev this.2)
  rw [← this]
  exact hz
end
end Go.Proofs.YtijhabhbeambeaaDoor
