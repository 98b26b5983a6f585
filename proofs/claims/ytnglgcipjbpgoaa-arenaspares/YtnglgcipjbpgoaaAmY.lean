/-
  depotlaw04: a pair in memory, over a set of blocks; asked, walked.
  KEEP: set on app at below new trans refl start ap kept rd rds mono own row cells lt box lo ml ms c0 f0 form max find eq ma some none more map
-/
import Derived.Test.YtnglgcipjbpgoaaAmX
set_option linter.unusedSimpArgs false
set_option linter.unusedVariables false
namespace Go.Proofs.Ytnglgcipjbpgoaa
open Go Go.RowKit Go.Maps

/-- what a Sweep told: the function's box and map, the document's row, the words as they were -/
structure Te where
  m : Nat
  mb : Nat
  mv : Value
  So : List Seg
def fnT (t : Te) : Value := .func (.func 45) #[] #[.pointer (some ⟨t.m, 0, none⟩)]
def mdT (t : Te) : List (Int × Int) := mvd4 0 (live4 (plc 0 t.So))
theorem row_kept4 {w w' : World} {base e size n : Nat} {v : Value} {xs : List Value} (h : w.ownsRow base e size v n xs) (hk : ∀ k, v.ownBlock = some k → w'.heap[k]? = w.heap[k]?) : w'.ownsRow base e size v n xs := by
  refine ⟨h.1, ?_⟩
  rcases h.2 with e | ⟨g, cap, cur, e, hb, hh, r⟩
  · exact .inl e
  · exact .inr ⟨g, cap, cur, e, hb, (hk g (by rw [e]; rfl)).trans hh, r⟩
/-- a block's type -/
def tyB (W : World) (k : Nat) : Option TypeId := match W.heap[k]? with | some (.cells _ t _) => some t | _ => none
/-- a pair: its box, its arena, the document's, what was told; F: the blocks that it uses (the arena may be a step ahead, and what was told too) -/
structure Pq4 (F : Nat → Prop) (W : World) (D b : Nat) (v : Value) (S : List Seg) (m : Nat) (rv : Value) (L : List Mt) (Sm : List Seg) (tv : Value) (T : List Te) (mv : Value) (Tm : List Te) : Prop where
  bx : W.heap[D]? = some (.cells #[.pointer (some ⟨b, 0, none⟩), .pointer (some ⟨m, 0, none⟩), tv, mv] 28 (0, 0))
  ar : Ar W b v S
  mz : Mz4 0 W m rv L Sm
  tr : W.ownsRow 0 70 1 tv T.length (T.map fnT)
  mr : W.ownsRow 0 72 1 mv Tm.length (Tm.map Te.mv)
  te : ∀ t ∈ T, TellsAt W t.m t.mb (lv 0 t.So)
  tm : ∀ t ∈ Tm, W.ownsRow 0 91 2 t.mv (mdT t).length (rowsV (mdT t)) ∧ (mdT t).length ≤ 1099511627776
  fD : F D ∧ F b ∧ F m
  fv : (∀ g, v.ownBlock = some g → F g) ∧ (∀ g, rv.ownBlock = some g → F g) ∧ (∀ g, tv.ownBlock = some g → F g) ∧ (∀ g, mv.ownBlock = some g → F g)
  fL : ∀ x ∈ L, ∀ g, x.1.ownBlock = some g → F g
  fT : ∀ t ∈ T, F t.m ∧ F t.mb
  fM : ∀ t ∈ Tm, ∀ g, t.mv.ownBlock = some g → F g
  lt' : ∀ k, F k → k < W.heap.size
  sp : ∀ x ∈ L, ∀ g, x.1.ownBlock = some g → v.ownBlock ≠ some g
abbrev Pr4 (F : Nat → Prop) (W : World) (D b : Nat) (v : Value) (S : List Seg) (m : Nat) (rv : Value) (L : List Mt) (tv mv : Value) (T : List Te) : Prop := Pq4 F W D b v S m rv L S tv T mv T
section
variable {F : Nat → Prop} {W W' : World} {D b : Nat} {v : Value} {S Sm : List Seg} {m : Nat} {rv : Value} {L : List Mt} {tv mv : Value} {T Tm : List Te}
theorem tells_kept {m mb : Nat} {l : LvL} (h : TellsAt W m mb l) (k1 : W'.heap[m]? = W.heap[m]?) (k2 : W'.heap[mb]? = W.heap[mb]?) : TellsAt W' m mb l := by
  refine ⟨k1.trans h.box, ?_⟩
  obtain ⟨n, Dm, ⟨es, clock, e1, e2⟩, hT⟩ := h.map
  exact ⟨n, Dm, ⟨es, clock, k2.trans e1, e2⟩, hT⟩
/-- what becomes of other blocks is nothing to it -/
theorem Pq4.keep (h : Pq4 F W D b v S m rv L Sm tv T mv Tm) (hs : W.heap.size ≤ W'.heap.size) (hk : ∀ k, F k → W'.heap[k]? = W.heap[k]?) : Pq4 F W' D b v S m rv L Sm tv T mv Tm := by
  exact ⟨(hk D h.fD.1).trans h.bx, ⟨(hk b h.fD.2.1).trans h.ar.box, row_kept4 h.ar.own fun k e => hk k (h.fv.1 k e), h.ar.ok⟩, ⟨⟨(hk m h.fD.2.2).trans h.mz.ma.box, ⟨row_kept4 h.mz.ma.ml.row fun k e => hk k (h.fv.2.1 k e), fun x hx => row_kept4 (h.mz.ma.ml.own x hx) fun k e => hk k (h.fL x hx k e)⟩, h.mz.ma.lo⟩, h.mz.eq⟩, row_kept4 h.tr fun k e => hk k (h.fv.2.2.1 k e), row_kept4 h.mr fun k e => hk k (h.fv.2.2.2 k e), fun t ht => tells_kept (h.te t ht) (hk _ (h.fT t ht).1) (hk _ (h.fT t ht).2), fun t ht => ⟨row_kept4 (h.tm t ht).1 fun k e => hk k (h.fM t ht k e), (h.tm t ht).2⟩, h.fD, h.fv, h.fL, h.fT, h.fM, fun k e => Nat.lt_of_lt_of_le (h.lt' k e) hs, h.sp⟩
theorem Pq4.below (h : Pq4 F W D b v S m rv L Sm tv T mv Tm) (hb : Below W.heap.size W W') : Pq4 F W' D b v S m rv L Sm tv T mv Tm := h.keep hb.size fun k e => hb.block k (h.lt' k e)
theorem Pq4.cells (h : Pq4 F W D b v S m rv L Sm tv T mv Tm) : W.cell? ⟨D, 0, none⟩ = some (.pointer (some ⟨b, 0, none⟩)) ∧ W.cell? ⟨D, 1, none⟩ = some (.pointer (some ⟨m, 0, none⟩)) ∧ W.cell? ⟨D, 2, none⟩ = some tv ∧ W.cell? ⟨D, 3, none⟩ = some mv ∧ ∀ j, W.frozen? ⟨D, j, none⟩ = false :=
  ⟨by simp [World.cell?, h.bx], by simp [World.cell?, h.bx], by simp [World.cell?, h.bx], by simp [World.cell?, h.bx], fun j => by simp [World.frozen?, h.bx]⟩
theorem row1_cell {B e : Nat} {W : World} {v : Value} {n : Nat} {xs : List Value} (h : W.ownsRow B e 1 v n xs) {i : Nat} {x : Value} (hi : xs[i]? = some x) : ∃ g cap, v = .slice (some ⟨g, 0, none⟩) n cap ∧ n ≤ cap ∧ W.cell? ⟨g, i, none⟩ = some x := by
  rcases h.2 with ⟨e1, e2⟩ | ⟨g, cap, cur, rfl, _, hh, hnc, _⟩
  · have := h.1
    rw [e2] at this
    have h0 : xs = [] := List.eq_nil_of_length_eq_zero (by simpa using this)
    rw [h0] at hi
    simp at hi
  · have := World.ownsRow.cells h (g := g) rfl i x hi
    rw [Addr.add_lit, Nat.zero_add] at this
    exact ⟨g, cap, rfl, hnc, this⟩
theorem ld_went (t : Te) (r : Int) : ldV (mdT t) r = .tuple #[.int .i64 ((went 0 (lv 0 t.So) r).getD 0), .bool (went 0 (lv 0 t.So) r).isSome] := by
  have h := mvd4_went (live4 (plc 0 t.So)) 0 r
  rw [live_lv] at h
  unfold ldV
  show (match (mdT t).find? (fun m => m.1 == r) with | some m => _ | none => _) = _
  unfold mdT
  rw [← h]
  cases (mvd4 0 (live4 (plc 0 t.So))).find? (fun m => m.1 == r) <;> rfl
end
set_option maxHeartbeats 1600000 in
theorem asked4_any (F : Nat → Prop) (D b : Nat) (v : Value) (S : List Seg) (m : Nat) (rv : Value) (L : List Mt) (tv mv : Value) (T : List Te) (k : Nat) (r : Int) (w : World) (h : Pr4 F w D b v S m rv L tv mv T) (hk : k < T.length) (h1 : -9223372036854775808 ≤ r) (h2 : r ≤ 9223372036854775807) (hT : T.length ≤ 1099511627776) :
    Calls Try.prog 8 #[.pointer (some ⟨D, 0, none⟩), .int .i64 k, .int .i64 r] w fun e w' => e = .returned (.bool true) ∧ w' = w := by
  obtain ⟨c0, c1, c2, c3, -⟩ := h.cells
  have ht := (⟨h.te T[k] (List.getElem_mem hk), (h.tm T[k] (List.getElem_mem hk)).1, (h.tm T[k] (List.getElem_mem hk)).2⟩ : _ ∧ _ ∧ _)
  obtain ⟨g, cap, ev, hn1, d1⟩ := row1_cell h.tr (i := k) (x := fnT T[k]) (by rw [List.getElem?_map, List.getElem?_eq_getElem hk]; rfl)
  obtain ⟨g2, cap2, ev2, hn2, d2⟩ := row1_cell h.mr (i := k) (x := (T[k]).mv) (by rw [List.getElem?_map, List.getElem?_eq_getElem hk]; rfl)
  subst ev; subst ev2
  obtain ⟨ma, mc, hmv⟩ := row_form2 ht.2.1
  have HTl : Hid (Calls Try.prog 45 #[.int .i64 r, .pointer (some ⟨(T[k]).m, 0, none⟩)] w fun e w' => e = .returned (.tuple #[.int .i64 ((went 0 (lv 0 (T[k]).So) r).getD 0), .bool (went 0 (lv 0 (T[k]).So) r).isSome]) ∧ w' = w) := tells_any _ _ _ r w ht.1 h1 h2
  have HLd : Hid (Calls Try.prog 33 #[.slice ma (mdT T[k]).length mc, .int .i64 r] w fun e w' => e = .returned (.tuple #[.int .i64 ((went 0 (lv 0 (T[k]).So) r).getD 0), .bool (went 0 (lv 0 (T[k]).So) r).isSome]) ∧ w' = w) := by
    have h5 := mLead_any 0 (T[k]).mv (mdT T[k]) r w ht.2.1 ht.2.2
    rw [ld_went, hmv] at h5
    exact h5
  rw [hmv] at d2
  unfold fnT at d1
  clear h ht hmv
  generalize (mdT T[k]).length = ml at *
  generalize (T[k]).m = tm at *
  generalize (went 0 (lv 0 (T[k]).So) r).getD 0 = ga at *
  generalize (went 0 (lv 0 (T[k]).So) r).isSome = gb at *
  go_enter Try.func8, Try.ntmps8
  go_wp2_with fail
  refine HTl.out.mono ?_
  rintro e w1 ⟨rfl, ew⟩
  have ew := ew.symm
  subst ew
  go_wp2_with fail
  refine HLd.out.mono ?_
  rintro e w1 ⟨rfl, ew⟩
  have ew := ew.symm
  subst ew
  have hb1 : (ga == ga) = true := beq_self_eq_true _
  have hb2 : (gb == gb) = true := beq_self_eq_true _
  go_wp2
  go_ret
  exact ⟨rfl, rfl⟩
end Go.Proofs.Ytnglgcipjbpgoaa
