/-
  rup: the closing that is led further, as it lies in memory.
  KEEP: set on app at below new trans refl start ap kept rd rds mono lt add none own nil put len pos setF setV putL putR other neV same_any
-/
import Derived.Test.YtgaojmcmpdjfmaaDoorJUnT
import Derived.Test.YtgaojmcmpdjfmaaDoorKUnR
import Derived.Test.YtgaojmcmpdjfmaaDoorKAppK
import Derived.Test.YtgaojmcmpdjfmaaDoorKOnP
set_option linter.unusedSimpArgs false
set_option linter.unusedVariables false
namespace Go.Proofs.YtgaojmcmpdjfmaaDoor
open Go Go.RowKit

structure Sy where
  C : Value
  I : Value
  E : Value
  F : Value
  P : Value
  M : Value
  R : Value
def Sy.own (s : Sy) (b k : Nat) : Prop := k = b ∨ some k = s.I.ownBlock ∨ some k = s.E.ownBlock ∨ some k = s.F.ownBlock ∨ some k = s.P.ownBlock ∨ some k = s.M.ownBlock ∨ some k = s.R.ownBlock
def i64s (xs : List Int) : List Value := xs.map (Value.int .i64)
def nats (xs : List Nat) : List Int := xs.map fun (x : Nat) => (x : Int)
/-- as it lies -/
structure Oz (B : Nat) (W : World) (b : Nat) (s : Sy) (n N : Nat) (A : List Bool) (E : List Int) (F : List Nat) (P : List (Nat × Nat)) (M : List Int) (R : List Nat) : Prop where
  box : W.heap[b]? = some (.cells #[s.C, s.I, s.E, s.F, s.P, s.M, s.R] 86 (0, 0))
  hb : B ≤ b
  i : W.ownsRow B 4 1 s.I n (A.map Value.bool)
  e : W.ownsRow B 21 1 s.E N (i32s E)
  f : W.ownsRow B 21 1 s.F n (i32s (nats F))
  p : W.ownsRow B 98 2 s.P P.length (twp P)
  m : W.ownsRow B 3 1 s.M M.length (i64s M)
  r : W.ownsRow B 21 1 s.R R.length (i32s (nats R))
  ef : ∀ k, some k = s.E.ownBlock → some k ≠ s.F.ownBlock
  er : ∀ k, some k = s.E.ownBlock → some k ≠ s.R.ownBlock
  fr : ∀ k, some k = s.F.ownBlock → some k ≠ s.R.ownBlock
section
variable {B : Nat} {W W' : World} {b : Nat} {s : Sy} {n N : Nat} {A : List Bool} {E : List Int} {F : List Nat} {P : List (Nat × Nat)} {M : List Int} {R : List Nat}
theorem Oz.ty (h : Oz B W b s n N A E F P M R) : Ty W b 86 := ⟨_, _, h.box⟩
theorem Oz.blt (h : Oz B W b s n N A E F P M R) : b < W.heap.size := (Array.getElem?_eq_some_iff.1 h.box).1
theorem Oz.lt (h : Oz B W b s n N A E F P M R) : ∀ k, s.own b k → B ≤ k ∧ k < W.heap.size := by
  rintro k (rfl | hk | hk | hk | hk | hk | hk)
  · exact ⟨h.hb, h.blt⟩
  · exact h.i.lt k hk.symm
  · exact h.e.lt k hk.symm
  · exact h.f.lt k hk.symm
  · exact h.p.lt k hk.symm
  · exact h.m.lt k hk.symm
  · exact h.r.lt k hk.symm
theorem Oz.kept (h : Oz B W b s n N A E F P M R) (hk : ∀ k, s.own b k → W'.heap[k]? = W.heap[k]?) : Oz B W' b s n N A E F P M R :=
  ⟨(hk b (.inl rfl)).trans h.box, h.hb, row_kept h.i fun k e => hk k (.inr (.inl e)), row_kept h.e fun k e => hk k (.inr (.inr (.inl e))), row_kept h.f fun k e => hk k (.inr (.inr (.inr (.inl e)))), row_kept h.p fun k e => hk k (.inr (.inr (.inr (.inr (.inl e))))), row_kept h.m fun k e => hk k (.inr (.inr (.inr (.inr (.inr (.inl e)))))), row_kept h.r fun k e => hk k (.inr (.inr (.inr (.inr (.inr (.inr e)))))), h.ef, h.er, h.fr⟩
theorem Oz.below (h : Oz B W b s n N A E F P M R) (hb : Below W.heap.size W W') : Oz B W' b s n N A E F P M R := h.kept fun k hk => hb.block k (h.lt k hk).2
theorem Oz.cell (h : Oz B W b s n N A E F P M R) (j : Nat) (x : Value) (hx : #[s.C, s.I, s.E, s.F, s.P, s.M, s.R][j]? = some x) : W.cell? ⟨b, j, none⟩ = some x := by simp [World.cell?, h.box]; simpa using hx
theorem Oz.c0 (h : Oz B W b s n N A E F P M R) : W.cell? ⟨b, 0, none⟩ = some s.C := h.cell 0 _ rfl
theorem Oz.c1 (h : Oz B W b s n N A E F P M R) : W.cell? ⟨b, 1, none⟩ = some s.I := h.cell 1 _ rfl
theorem Oz.c2 (h : Oz B W b s n N A E F P M R) : W.cell? ⟨b, 2, none⟩ = some s.E := h.cell 2 _ rfl
theorem Oz.c3 (h : Oz B W b s n N A E F P M R) : W.cell? ⟨b, 3, none⟩ = some s.F := h.cell 3 _ rfl
theorem Oz.c4 (h : Oz B W b s n N A E F P M R) : W.cell? ⟨b, 4, none⟩ = some s.P := h.cell 4 _ rfl
theorem Oz.c5 (h : Oz B W b s n N A E F P M R) : W.cell? ⟨b, 5, none⟩ = some s.M := h.cell 5 _ rfl
theorem Oz.c6 (h : Oz B W b s n N A E F P M R) : W.cell? ⟨b, 6, none⟩ = some s.R := h.cell 6 _ rfl
theorem Oz.fz (h : Oz B W b s n N A E F P M R) (j : Nat) : W.frozen? ⟨b, j, none⟩ = false := by simp [World.frozen?, h.box]
/-- a row of another block stays -/
theorem row_off {row : Option Nat} {e sz m : Nat} {v : Value} {xs : List Value} (h : W.ownsRow B e sz v m xs) (hg : W.grownBy W' row) (hne : ∀ k, some k = v.ownBlock → some k ≠ row) : W'.ownsRow B e sz v m xs :=
  row_kept h fun k hk => hg.block k (h.lt k hk.symm).2 fun e1 => hne k hk e1
theorem Oz.setI (h : Oz B W b s n N A E F P M R) {g cap k : Nat} (hv : s.I = .slice (some ⟨g, 0, none⟩) n cap) (hk : k < n) (z : Bool) : Oz B (W.setCell ⟨g, k, none⟩ (.bool z)) b s n N (A.set k z) E F P M R ∧ Mo W (s.own b) (W.setCell ⟨g, k, none⟩ (.bool z)) (s.own b) := by
  have hg := grown_set W ⟨g, k, none⟩ (.bool z)
  have ht : ∀ x, some g = some x → Ty W x 4 := fun x e => row_ty h.i (by rw [hv, ← e]; rfl)
  refine ⟨⟨box_other h.box hg ht (by decide), h.hb, ?_, row_other h.e hg ht (by decide), row_other h.f hg ht (by decide), row_other h.p hg ht (by decide), row_other h.m hg ht (by decide), row_other h.r hg ht (by decide), h.ef, h.er, h.fr⟩, Mo.grown hg fun x e => .inr (.inl (by rw [hv, ← e]; rfl))⟩
  have h1 := h.i
  rw [hv] at h1 ⊢
  rw [List.map_set]
  exact own_cell h1 (by omega) _
theorem Oz.setE (h : Oz B W b s n N A E F P M R) {g cap k : Nat} (hv : s.E = .slice (some ⟨g, 0, none⟩) N cap) (hk : k < N) (z : Int) : Oz B (W.setCell ⟨g, k, none⟩ (.int .i32 z)) b s n N A (E.set k z) F P M R ∧ Mo W (s.own b) (W.setCell ⟨g, k, none⟩ (.int .i32 z)) (s.own b) := by
  have hg := grown_set W ⟨g, k, none⟩ (.int .i32 z)
  have ht : ∀ x, some g = some x → Ty W x 21 := fun x e => row_ty h.e (by rw [hv, ← e]; rfl)
  have hgE : some g = s.E.ownBlock := by rw [hv]; rfl
  refine ⟨⟨box_other h.box hg ht (by decide), h.hb, row_other h.i hg ht (by decide), ?_, row_off h.f hg (fun q hq e1 => h.ef q (by rw [e1]; exact hgE) hq), row_other h.p hg ht (by decide), row_other h.m hg ht (by decide), row_off h.r hg (fun q hq e1 => h.er q (by rw [e1]; exact hgE) hq), h.ef, h.er, h.fr⟩, Mo.grown hg fun x e => .inr (.inr (.inl (by rw [hv, ← e]; rfl)))⟩
  have h1 := h.e
  rw [hv] at h1 ⊢
  have e2 : i32s (E.set k z) = (i32s E).set k (.int .i32 z) := by unfold i32s; rw [List.map_set]
  rw [e2]
  exact own_cell h1 (by omega) _
theorem Oz.setF (h : Oz B W b s n N A E F P M R) {g cap k : Nat} (hv : s.F = .slice (some ⟨g, 0, none⟩) n cap) (hk : k < n) (z : Nat) : Oz B (W.setCell ⟨g, k, none⟩ (.int .i32 (z : Int))) b s n N A E (F.set k z) P M R ∧ Mo W (s.own b) (W.setCell ⟨g, k, none⟩ (.int .i32 (z : Int))) (s.own b) := by
  have hg := grown_set W ⟨g, k, none⟩ (.int .i32 (z : Int))
  have ht : ∀ x, some g = some x → Ty W x 21 := fun x e => row_ty h.f (by rw [hv, ← e]; rfl)
  have hgF : some g = s.F.ownBlock := by rw [hv]; rfl
  refine ⟨⟨box_other h.box hg ht (by decide), h.hb, row_other h.i hg ht (by decide), row_off h.e hg (fun q hq e1 => h.ef q hq (by rw [e1]; exact hgF)), ?_, row_other h.p hg ht (by decide), row_other h.m hg ht (by decide), row_off h.r hg (fun q hq e1 => h.fr q (by rw [e1]; exact hgF) hq), h.ef, h.er, h.fr⟩, Mo.grown hg fun x e => .inr (.inr (.inr (.inl (by rw [hv, ← e]; rfl))))⟩
  have h1 := h.f
  rw [hv] at h1 ⊢
  have e2 : i32s (nats (F.set k z)) = (i32s (nats F)).set k (.int .i32 (z : Int)) := by unfold i32s nats; rw [List.map_set, List.map_set]
  rw [e2]
  exact own_cell h1 (by omega) _
theorem Oz.putP {W1 : World} {u : Value} {P' : List (Nat × Nat)} (h : Oz B W b s n N A E F P M R) (hg : W.grownBy W1 s.P.ownBlock) (hn : u.ownBlock = s.P.ownBlock ∨ ∀ g, u.ownBlock = some g → W.heap.size ≤ g) (ho : W1.ownsRow B 98 2 u P'.length (twp P')) :
    Oz B (W1.setCell ⟨b, 4, none⟩ u) b { s with P := u } n N A E F P' M R ∧ Mo W (s.own b) (W1.setCell ⟨b, 4, none⟩ u) (({ s with P := u } : Sy).own b) := by
  have ht : ∀ x, s.P.ownBlock = some x → Ty W x 98 := fun x e => row_ty h.p e.symm
  have hb := box_other h.box hg ht (by decide)
  refine ⟨⟨set_heap hb 4 u, h.hb, set_other hb (row_other h.i hg ht (by decide)) (by decide), set_other hb (row_other h.e hg ht (by decide)) (by decide), set_other hb (row_other h.f hg ht (by decide)) (by decide), set_other hb ho (by decide), set_other hb (row_other h.m hg ht (by decide)) (by decide), set_other hb (row_other h.r hg ht (by decide)) (by decide), h.ef, h.er, h.fr⟩, ?_⟩
  have hs := grown_set W1 ⟨b, 4, none⟩ u
  refine ⟨hs.os.trans hg.os, hs.tape.trans hg.tape, hs.output.trans hg.output, Nat.le_trans hg.size hs.size, fun i hi h1 => ?_, ?_⟩
  · exact (hs.block i (Nat.lt_of_lt_of_le hi hg.size) (fun e1 => h1 (.inl (by simpa using e1)))).trans (hg.block i hi (fun e1 => h1 (.inr (.inr (.inr (.inr (.inl e1)))))))
  · rintro k (hk | hk | hk | hk | hk | hk | hk)
    · exact .inl (.inl hk)
    · exact .inl (.inr (.inl hk))
    · exact .inl (.inr (.inr (.inl hk)))
    · exact .inl (.inr (.inr (.inr (.inl hk))))
    · rcases hn with e | e
      · exact .inl (.inr (.inr (.inr (.inr (.inl (by rw [← e]; exact hk))))))
      · exact .inr (e k hk.symm)
    · exact .inl (.inr (.inr (.inr (.inr (.inr (.inl hk))))))
    · exact .inl (.inr (.inr (.inr (.inr (.inr (.inr hk))))))
theorem Oz.putM {W1 : World} {u : Value} {M' : List Int} (h : Oz B W b s n N A E F P M R) (hg : W.grownBy W1 s.M.ownBlock) (hn : u.ownBlock = s.M.ownBlock ∨ ∀ g, u.ownBlock = some g → W.heap.size ≤ g) (ho : W1.ownsRow B 3 1 u M'.length (i64s M')) :
    Oz B (W1.setCell ⟨b, 5, none⟩ u) b { s with M := u } n N A E F P M' R ∧ Mo W (s.own b) (W1.setCell ⟨b, 5, none⟩ u) (({ s with M := u } : Sy).own b) := by
  have ht : ∀ x, s.M.ownBlock = some x → Ty W x 3 := fun x e => row_ty h.m e.symm
  have hb := box_other h.box hg ht (by decide)
  refine ⟨⟨set_heap hb 5 u, h.hb, set_other hb (row_other h.i hg ht (by decide)) (by decide), set_other hb (row_other h.e hg ht (by decide)) (by decide), set_other hb (row_other h.f hg ht (by decide)) (by decide), set_other hb (row_other h.p hg ht (by decide)) (by decide), set_other hb ho (by decide), set_other hb (row_other h.r hg ht (by decide)) (by decide), h.ef, h.er, h.fr⟩, ?_⟩
  have hs := grown_set W1 ⟨b, 5, none⟩ u
  refine ⟨hs.os.trans hg.os, hs.tape.trans hg.tape, hs.output.trans hg.output, Nat.le_trans hg.size hs.size, fun i hi h1 => ?_, ?_⟩
  · exact (hs.block i (Nat.lt_of_lt_of_le hi hg.size) (fun e1 => h1 (.inl (by simpa using e1)))).trans (hg.block i hi (fun e1 => h1 (.inr (.inr (.inr (.inr (.inr (.inl e1))))))))
  · rintro k (hk | hk | hk | hk | hk | hk | hk)
    · exact .inl (.inl hk)
    · exact .inl (.inr (.inl hk))
    · exact .inl (.inr (.inr (.inl hk)))
    · exact .inl (.inr (.inr (.inr (.inl hk))))
    · exact .inl (.inr (.inr (.inr (.inr (.inl hk)))))
    · rcases hn with e | e
      · exact .inl (.inr (.inr (.inr (.inr (.inr (.inl (by rw [← e]; exact hk)))))))
      · exact .inr (e k hk.symm)
    · exact .inl (.inr (.inr (.inr (.inr (.inr (.inr hk))))))
theorem Oz.putR {W1 : World} {u : Value} {R' : List Nat} (h : Oz B W b s n N A E F P M R) (hg : W.grownBy W1 s.R.ownBlock) (hn : u.ownBlock = s.R.ownBlock ∨ ∀ g, u.ownBlock = some g → W.heap.size ≤ g) (ho : W1.ownsRow B 21 1 u R'.length (i32s (nats R'))) :
    Oz B (W1.setCell ⟨b, 6, none⟩ u) b { s with R := u } n N A E F P M R' ∧ Mo W (s.own b) (W1.setCell ⟨b, 6, none⟩ u) (({ s with R := u } : Sy).own b) := by
  have ht : ∀ x, s.R.ownBlock = some x → Ty W x 21 := fun x e => row_ty h.r e.symm
  have hb := box_other h.box hg ht (by decide)
  have ap : ∀ {v : Value} {e sz m : Nat} {xs : List Value}, W.ownsRow B e sz v m xs → (∀ k, some k = v.ownBlock → some k ≠ s.R.ownBlock) → ∀ k, some k = v.ownBlock → some k ≠ u.ownBlock := fun {v e sz m xs} hr h1 k hk e1 => by
    rcases hn with e2 | e2
    · exact h1 k hk (by rw [← e2]; exact e1)
    · have := e2 k e1.symm
      have := (hr.lt k hk.symm).2
      omega
  refine ⟨⟨set_heap hb 6 u, h.hb, set_other hb (row_other h.i hg ht (by decide)) (by decide), set_other hb (row_off h.e hg h.er) (by decide), set_other hb (row_off h.f hg h.fr) (by decide), set_other hb (row_other h.p hg ht (by decide)) (by decide), set_other hb (row_other h.m hg ht (by decide)) (by decide), set_other hb ho (by decide), h.ef, ap h.e h.er, ap h.f h.fr⟩, ?_⟩
  have hs := grown_set W1 ⟨b, 6, none⟩ u
  refine ⟨hs.os.trans hg.os, hs.tape.trans hg.tape, hs.output.trans hg.output, Nat.le_trans hg.size hs.size, fun i hi h1 => ?_, ?_⟩
  · exact (hs.block i (Nat.lt_of_lt_of_le hi hg.size) (fun e1 => h1 (.inl (by simpa using e1)))).trans (hg.block i hi (fun e1 => h1 (.inr (.inr (.inr (.inr (.inr (.inr e1))))))))
  · rintro k (hk | hk | hk | hk | hk | hk | hk)
    · exact .inl (.inl hk)
    · exact .inl (.inr (.inl hk))
    · exact .inl (.inr (.inr (.inl hk)))
    · exact .inl (.inr (.inr (.inr (.inl hk))))
    · exact .inl (.inr (.inr (.inr (.inr (.inl hk)))))
    · exact .inl (.inr (.inr (.inr (.inr (.inr (.inl hk))))))
    · rcases hn with e | e
      · exact .inl (.inr (.inr (.inr (.inr (.inr (.inr (by rw [← e]; exact hk)))))))
      · exact .inr (e k hk.symm)
end
/-- how far it has come -/
structure Ow (w0 W : World) (b : Nat) (s : Sy) (n : Nat) (css : List (List Int)) (K M : List Int) (R : List Nat) : Prop where
  bel : Below w0.heap.size w0 W
  fit : Fit css n
  mn : M.Nodup
  mf : ∀ x ∈ M, fmd x = true ∧ idx x < n
  z : ∃ F P, Oz w0.heap.size W b s n css.length (inLs n (K ++ M)) (lefts (reds K css) M) F P M R ∧ Pls (reds K css) n F P ∧ P.length ≤ 2147483648
section
variable {w0 W W' : World} {b : Nat} {s s' : Sy} {n : Nat} {css : List (List Int)} {K M : List Int} {R : List Nat}
theorem Ow.lt (h : Ow w0 W b s n css K M R) : ∀ k, s.own b k → w0.heap.size ≤ k ∧ k < W.heap.size := by
  obtain ⟨F, P, hz, _⟩ := h.z
  exact hz.lt
theorem Ow.below (h : Ow w0 W b s n css K M R) (hb : Below W.heap.size W W') : Ow w0 W' b s n css K M R := by
  obtain ⟨F, P, hz, hp⟩ := h.z
  exact ⟨Below.step h.bel hb, h.fit, h.mn, h.mf, F, P, hz.below hb, hp⟩
theorem Ow.few (h : Ow w0 W b s n css K M R) : M.length ≤ 2097152 := lits_few h.mn fun x hx => (h.mf x hx).1
theorem Fit.reds (h : Fit css n) (K : List Int) : Fit (reds K css) n := by
  have hc : ∀ c ∈ Go.Proofs.YtgaojmcmpdjfmaaDoor.reds K css, ∃ c' ∈ css, c = red K c' := fun c hc => by
    obtain ⟨c', a, b⟩ := List.mem_map.1 hc
    exact ⟨c', a, b.symm⟩
  refine ⟨h.hn, h.ev, by rw [reds_len]; exact h.num, fun c hc' => ?_, fun c hc' l hl => ?_⟩
  · obtain ⟨c', a, rfl⟩ := hc c hc'
    refine Nat.le_trans ?_ (h.len c' a)
    unfold red
    split
    · simp
    · exact List.length_filter_le _ _
  · obtain ⟨c', a, rfl⟩ := hc c hc'
    exact h.lit c' a l (mem_red.1 hl).2.1
end
end Go.Proofs.YtgaojmcmpdjfmaaDoor
