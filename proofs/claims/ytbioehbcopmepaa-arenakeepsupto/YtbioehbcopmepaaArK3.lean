/-
  ArenaKeeps: the arena and its book, step by step; a script that is read.
  KEEP: set on app at below new trans refl start ap kept rd rds mono
-/
import Derived.Test.YtbioehbcopmepaaArK2
set_option linter.unusedSimpArgs false
set_option linter.unusedVariables false
namespace Go.Proofs.Ytbioehbcopmepaa
open Go Go.RowKit Go.Maps

/-- the arena and the book, the book perhaps behind -/
structure K0 (w W : World) (b : Nat) (v : Value) (S : List Seg) (rv : Value) (L : List Ent) : Prop where
  ar : Ar W b v S
  bok : Bk w.heap.size W rv L
  sep : ∀ x ∈ L, ∀ g, x.1.ownBlock = some g → g ≠ b ∧ some g ≠ v.ownBlock
  bel : Below w.heap.size w W
  hb : w.heap.size ≤ b
  hv : ∀ g, v.ownBlock = some g → w.heap.size ≤ g
theorem K0.kst {w W : World} {b : Nat} {v : Value} {S : List Seg} {rv : Value} {L : List Ent} (h : K0 w W b v S rv L) (he : bk L = lv 0 S) : Kst w.heap.size W b v S rv L := ⟨h.ar, h.bok, h.sep, he⟩
theorem K0.below {w W W' : World} {b : Nat} {v : Value} {S : List Seg} {rv : Value} {L : List Ent} (h : K0 w W b v S rv L) (hb : Below W.heap.size W W') : K0 w W' b v S rv L :=
  ⟨h.ar.below hb, h.bok.below hb, h.sep, h.bel.trans (hb.mono h.bel.size), h.hb, h.hv⟩
theorem row_mv {w w' : World} {b : Nat} {v v' : Value} {S : List Seg} {B K s : Nat} {e : TypeId} {u : Value} {xs : List Value} (ha : Ar w b v S) (m : Mv w b v w' v') (h : w.ownsRow B e s u K xs) (h1 : 88 ≠ e) (h2 : 3 ≠ e) : w'.ownsRow B e s u K xs := by
  rcases h.2 with ⟨e1, e2⟩ | ⟨g, cap, cur, e1, hbg, hh, r1, r2, r3, r4⟩
  · exact ⟨h.1, .inl ⟨e1, e2⟩⟩
  · refine ⟨h.1, .inr ⟨g, cap, cur, e1, hbg, ?_, r1, r2, r3, r4⟩⟩
    rw [m.block g (Array.getElem?_eq_some_iff.1 hh).1 ?_ ?_]; exact hh
    · rintro rfl
      rw [show w.heap[g]? = _ from ha.box] at hh
      injection hh with hh
      injection hh with _ e3
      exact absurd e3 h1
    · intro e3
      rcases ha.own.2 with ⟨e4, _⟩ | ⟨g', _, _, e4, _, hh', _⟩
      · rw [e4] at e3; cases e3
      · rw [e4] at e3; cases e3
        rw [hh'] at hh
        injection hh with hh
        injection hh with _ e5
        exact absurd e5 h2
theorem K0.mv {w W W' : World} {b : Nat} {v v' : Value} {S S' : List Seg} {rv : Value} {L : List Ent} (h : K0 w W b v S rv L) (m : Mv W b v W' v') (ha : Ar W' b v' S') : K0 w W' b v' S' rv L := by
  have hs := h.bel.size
  refine ⟨ha, ⟨row_mv h.ar m h.bok.row (by decide) (by decide), fun x hx => (h.bok.own x hx).mv m (h.sep x hx)⟩, fun x hx g hg => ⟨(h.sep x hx g hg).1, fun e => ?_⟩, ⟨m.os.trans h.bel.os, m.tape.trans h.bel.tape, m.output.trans h.bel.output, Nat.le_trans hs m.size, fun k hk => ?_⟩, h.hb, fun g hg => ?_⟩
  · rcases m.new with h1 | h1
    · rw [h1] at e; exact (h.sep x hx g hg).2 e
    · have h2 := h1 g e.symm
      have h3 := ((h.bok.own x hx).lt g hg).2
      omega
  · rw [m.block k (Nat.lt_of_lt_of_le hk hs) (by have := h.hb; omega) (fun e => by have := h.hv k e.symm; omega)]
    exact h.bel.block k hk
  · rcases m.new with h1 | h1
    · rw [h1] at hg; exact h.hv g hg
    · have := h1 g hg; omega
/-- one more in the book -/
theorem K0.book {w W Wa W' : World} {b : Nat} {v : Value} {S : List Seg} {rv rv' u : Value} {L : List Ent} {k : Kp} (h : K0 w W b v S rv L) (hb : Below W.heap.size W Wa) (hu : Own W.heap.size Wa u k.lits)
    (hr : W'.ownsRow w.heap.size 52 4 rv' (L.length + 1) (rowsK L ++ [.int .i64 k.pl, u, .bool k.learnt, .bool k.live])) (hg : Wa.grownBy W' rv.ownBlock) : K0 w W' b v S rv' (L ++ [(u, k)]) := by
  have ha := h.below hb
  have hs := h.bel.size
  have hs2 := hb.size
  have hown : ∀ {x : Value} {zs : List Int} {B : Nat}, Own B Wa x zs → Own B W' x zs := fun hx => row_apart (by decide) hx ha.bok.row hg
  refine ⟨ha.ar.row ha.bok.row (by decide) (by decide) hg, ⟨?_, fun x hx => ?_⟩, fun x hx g hgx => ?_, ha.bel.grown hg ha.bel.size (fun q hq => (ha.bok.row.lt q hq).1), h.hb, h.hv⟩
  · rw [List.length_append, rowsK_append]; exact hr
  · rcases List.mem_append.1 hx with hx | hx
    · exact hown (ha.bok.own x hx)
    · obtain rfl := List.mem_singleton.1 hx
      exact hown (hu.mono hs)
  · rcases List.mem_append.1 hx with hx | hx
    · exact h.sep x hx g hgx
    · obtain rfl := List.mem_singleton.1 hx
      have h1 := (hu.lt g hgx).1
      refine ⟨?_, fun e => ?_⟩
      · have := h.ar.box.lt; omega
      · have := (h.ar.own.lt g e.symm).2; omega
theorem rowsK_set {L : List Ent} {k : Nat} (hk : k < L.length) : rowsK (L.set k (L[k].1, { L[k].2 with live := false })) = (rowsK L).set (k * 4 + 3) (.bool false) := by
  induction L generalizing k with
  | nil => simp at hk
  | cons x r ih =>
    cases k with
    | zero => simp [rowsK]
    | succ j =>
      have := ih (k := j) (by simpa using hk)
      rw [List.set_cons_succ, show rowsK (x :: r) = .int .i64 x.2.pl :: x.1 :: .bool x.2.learnt :: .bool x.2.live :: rowsK r from rfl, show (j + 1) * 4 + 3 = j * 4 + 3 + 1 + 1 + 1 + 1 by omega]
      simp only [List.set_cons_succ, List.getElem_cons_succ]
      rw [← this]; rfl
/-- an entry of the book is dead -/
theorem K0.kill {w W : World} {b : Nat} {v : Value} {S : List Seg} {g cap : Nat} {L : List Ent} {k : Nat} (h : K0 w W b v S (.slice (some ⟨g, 0, none⟩) L.length cap) L) (hk : k < L.length) :
    K0 w (W.setCell ⟨g, k * 4 + 3, none⟩ (.bool false)) b v S (.slice (some ⟨g, 0, none⟩) L.length cap) (L.set k (L[k].1, { L[k].2 with live := false })) := by
  have hst := World.ownsRow.stored h.bok.row (k * 4 + 3) (.bool false)
  have hg := (h.bok.row.lt g rfl).1
  have hgr : W.grownBy (W.setCell ⟨g, k * 4 + 3, none⟩ (.bool false)) (Value.slice (some ⟨g, 0, none⟩) L.length cap).ownBlock := hst.2
  have hm : ∀ x ∈ L.set k (L[k].1, { L[k].2 with live := false }), ∃ y ∈ L, x.1 = y.1 ∧ x.2.lits = y.2.lits := fun x hx => by
    rcases List.mem_or_eq_of_mem_set hx with hx | rfl
    · exact ⟨x, hx, rfl, rfl⟩
    · exact ⟨L[k], List.getElem_mem hk, rfl, rfl⟩
  refine ⟨h.ar.row h.bok.row (by decide) (by decide) hgr, ⟨?_, fun x hx => ?_⟩, fun x hx => ?_, h.bel.grown hst.2 h.bel.size (fun q hq => by cases hq; exact hg), h.hb, h.hv⟩
  · rw [List.length_set, rowsK_set hk]; exact hst.1
  · obtain ⟨y, hy, e1, e2⟩ := hm x hx
    rw [e1, e2]; exact row_apart (by decide) (h.bok.own y hy) h.bok.row hgr
  · obtain ⟨y, hy, e1, e2⟩ := hm x hx
    rw [e1]; exact h.sep y hy
theorem bk_kill {S : List Seg} {L : List Ent} (he : bk L = lv 0 S) {k : Nat} (hk : k < L.length) (hl : L[k].2.live = true) (hf : find S L[k].2.pl = some ⟨L[k].2.lits, L[k].2.learnt, true⟩) :
    bk (L.set k (L[k].1, { L[k].2 with live := false })) = lv 0 (dropAt S L[k].2.pl) := by
  have hr := lv_rises S 0
  have h1 := bk_at hk hl
  rw [drop_lv (p := 0) hf, ← he]
  rw [← he] at hr
  rw [h1] at hr ⊢
  have h2 : L.set k (L[k].1, { L[k].2 with live := false }) = L.take k ++ (L[k].1, { L[k].2 with live := false }) :: L.drop (k + 1) := by
    rw [List.set_eq_take_append_cons_drop, if_pos hk]
  rw [h2, bk_append, bk]
  obtain ⟨p1, p2, p3⟩ := List.pairwise_append.1 hr
  obtain ⟨p4, p5⟩ := List.pairwise_cons.1 p2
  rw [List.filter_append, List.filter_eq_self.2 (fun y hy => ?_), List.filter_cons_of_neg (by simp), List.filter_eq_self.2 (fun y hy => ?_)]
  · simp
  · have := p4 y hy
    simp only [decide_eq_true_eq]; simp at this; omega
  · have := p3 y hy _ List.mem_cons_self
    simp only [decide_eq_true_eq]; simp at this; omega
theorem find_dropped {S : List Seg} {k : Int} {s : Seg} (hf : find S k = some s) : find (dropAt S k) k = none := by
  cases h : find (dropAt S k) k with
  | none => rfl
  | some x =>
    have := find_lv (p := 0) h
    rw [drop_lv (p := 0) hf] at this
    have := (List.mem_filter.1 this).2
    simp at this
theorem find_end (S : List Seg) : find S ((flat S).length : Int) = none := by
  cases h : find S ((flat S).length : Int) with
  | none => rfl
  | some x => have := (find_get h).2.2.2.2.1; omega
theorem dropAt_len {S : List Seg} {k : Int} {s : Seg} (hf : find S k = some s) : (flat (dropAt S k)).length = (flat S).length := by rw [drop_flat hf, List.length_set]

/-- a step of a script -/
structure AOp where
  kind : Int
  which : Int
  ref : Int
  lits : List Int
  learnt : Bool
def cost (ops : List AOp) : Nat := (ops.map (fun o => 1 + o.lits.length)).sum
theorem cost_take (ops : List AOp) (i : Nat) (h : i < ops.length) : cost (ops.take (i + 1)) = cost (ops.take i) + 1 + ops[i].lits.length := by
  unfold cost
  rw [List.take_succ_eq_append_getElem h, List.map_append, List.sum_append]
  simp; omega
theorem cost_le (ops : List AOp) (i : Nat) : cost (ops.take i) ≤ cost ops := by
  have : cost ops = cost (ops.take i) + cost (ops.drop i) := by
    unfold cost
    rw [← List.sum_append, ← List.map_append, List.take_append_drop]
  omega
/-- a script that is read -/
def RdO (W : World) (s : Value) (ops : List AOp) : Prop :=
  ∃ a c, s = .slice a ops.length c ∧ ops.length ≤ c ∧ c ≤ maxLen ∧ ∀ (j : Nat) (hj : j < ops.length), ∃ b off u, a = some ⟨b, off, none⟩ ∧ b < W.heap.size ∧
    W.cell? ⟨b, off + j * 5, none⟩ = some (.int .i64 ops[j].kind) ∧ W.cell? ⟨b, off + j * 5 + 1, none⟩ = some (.int .i64 ops[j].which) ∧ W.cell? ⟨b, off + j * 5 + 2, none⟩ = some (.int .i64 ops[j].ref) ∧
    W.cell? ⟨b, off + j * 5 + 3, none⟩ = some u ∧ W.cell? ⟨b, off + j * 5 + 4, none⟩ = some (.bool ops[j].learnt) ∧ Rd W u ops[j].lits ∧ (Lit.int .i64 ops[j].ref).wf = true
theorem RdO.below {W W' : World} {B : Nat} {s : Value} {ops : List AOp} (h : RdO W s ops) (hb : Below W.heap.size W W') : RdO W' s ops := by
  obtain ⟨a, c, e, h1, h2, h3⟩ := h
  refine ⟨a, c, e, h1, h2, fun j hj => ?_⟩
  obtain ⟨b, off, u, e1, hl, c0, c1, c2, c3, c4, hr, hw⟩ := h3 j hj
  have hc : ∀ o, W'.cell? ⟨b, o, none⟩ = W.cell? ⟨b, o, none⟩ := fun o => hb.cell (p := ⟨b, o, none⟩) hl
  exact ⟨b, off, u, e1, Nat.lt_of_lt_of_le hl hb.size, by rw [hc]; exact c0, by rw [hc]; exact c1, by rw [hc]; exact c2, by rw [hc]; exact c3, by rw [hc]; exact c4, hr.below hb, hw⟩
/-- a box of five cells -/
def Bx5 (W : World) (D : Nat) (x0 x1 x2 x3 x4 : Value) : Prop := W.heap[D]? = some (.cells #[x0, x1, x2, x3, x4] 34 (0, 0))
theorem Bx5.lt {W : World} {D : Nat} {x0 x1 x2 x3 x4 : Value} (h : Bx5 W D x0 x1 x2 x3 x4) : D < W.heap.size := (Array.getElem?_eq_some_iff.1 h).1
theorem Bx5.c {W : World} {D : Nat} {x0 x1 x2 x3 x4 : Value} (h : Bx5 W D x0 x1 x2 x3 x4) : W.cell? ⟨D, 0, none⟩ = some x0 ∧ W.cell? ⟨D, 2, none⟩ = some x2 ∧ W.cell? ⟨D, 3, none⟩ = some x3 ∧ W.cell? ⟨D, 4, none⟩ = some x4 := by
  simp [World.cell?, show W.heap[D]? = _ from h]
theorem Bx5.new (W : World) (x0 x1 x2 x3 x4 : Value) : Bx5 (W.alloc (.cells #[x0, x1, x2, x3, x4] 34)) W.heap.size x0 x1 x2 x3 x4 := World.alloc_heap_new W _
theorem Bx5.below {W W' : World} {D : Nat} {x0 x1 x2 x3 x4 : Value} (h : Bx5 W D x0 x1 x2 x3 x4) (hb : Below W.heap.size W W') : Bx5 W' D x0 x1 x2 x3 x4 := (hb.block D h.lt).trans h
theorem Bx5.mv {W W' : World} {D b : Nat} {v v' : Value} {S : List Seg} {x0 x1 x2 x3 x4 : Value} (h : Bx5 W D x0 x1 x2 x3 x4) (ha : Ar W b v S) (m : Mv W b v W' v') : Bx5 W' D x0 x1 x2 x3 x4 := by
  refine (m.block D h.lt ?_ ?_).trans h
  · rintro rfl
    have := ha.box
    rw [Bx2, show W.heap[D]? = _ from h] at this
    injection this with this
    injection this with _ e
    exact absurd e (by decide)
  · intro e
    rcases ha.own.2 with ⟨e4, _⟩ | ⟨g', _, _, e4, _, hh', _⟩
    · rw [e4] at e; cases e
    · rw [e4] at e; cases e
      rw [show W.heap[g']? = _ from h] at hh'
      injection hh' with hh'
      injection hh' with _ e
      exact absurd e (by decide)

end Go.Proofs.Ytbioehbcopmepaa
