/-
  depotref04: Sweep, walked.
  KEEP: set on app at below new trans refl start ap kept rd rds mono own row cells lt box lo ml ms c0 f0 form max find eq ma some none
-/
import Derived.Test.YtnglgcipjbpgoaaAmV
set_option linter.unusedSimpArgs false
set_option linter.unusedVariables false
namespace Go.Proofs.Ytnglgcipjbpgoaa
open Go Go.RowKit

/-- where the k-th goes -/
def ofK (M : List Mt) (k : Nat) : Nat := mwd ((M.map Prod.snd).take k)
theorem ofK_more {M : List Mt} {k : Nat} (h : k < M.length) : ofK M (k + 1) = ofK M k + 1 + M[k].2.lits.length := by
  unfold ofK
  rw [mwd_take _ k (by simpa using h), snd_at4 h]
/-- the first k have gone -/
def rnK (M : List Mt) : Nat → List Mt
  | 0 => M
  | k + 1 => match M[k]? with | some x => (rnK M k).set k (x.1, ⟨ofK M k, x.2.lits, x.2.learnt, x.2.live⟩) | none => rnK M k
def mvK (M : List Mt) : Nat → List (Int × Int)
  | 0 => []
  | k + 1 => match M[k]? with | some x => mvK M k ++ [(x.2.pl, (ofK M k : Int))] | none => mvK M k
theorem rnK_len (M : List Mt) : ∀ k, (rnK M k).length = M.length
  | 0 => rfl
  | k + 1 => by unfold rnK; cases M[k]? <;> simp [rnK_len M k]
theorem rnK_more {M : List Mt} {k : Nat} {x : Mt} (h : M[k]? = some x) : rnK M (k + 1) = (rnK M k).set k (x.1, ⟨ofK M k, x.2.lits, x.2.learnt, x.2.live⟩) := by
  conv => lhs; unfold rnK
  rw [h]
theorem mvK_more {M : List Mt} {k : Nat} {x : Mt} (h : M[k]? = some x) : mvK M (k + 1) = mvK M k ++ [(x.2.pl, (ofK M k : Int))] := by
  conv => lhs; unfold mvK
  rw [h]
theorem mvK_len (M : List Mt) : ∀ k, k ≤ M.length → (mvK M k).length = k
  | 0, _ => rfl
  | k + 1, h => by rw [mvK_more (List.getElem?_eq_getElem (by omega)), List.length_append, mvK_len M k (by omega)]; rfl
theorem rnK_later (M : List Mt) : ∀ (k i : Nat), k ≤ i → (rnK M k)[i]? = M[i]?
  | 0, i, _ => rfl
  | k + 1, i, h => by
    have ih := rnK_later M k i (by omega)
    unfold rnK
    cases e : M[k]? with
    | none => exact ih
    | some x => rw [List.getElem?_set_ne (by omega)]; exact ih
theorem rnK_all : ∀ (M : List Mt) (k : Nat), k ≤ M.length → ((rnK M k).map Prod.snd).take k = ren4 0 ((M.map Prod.snd).take k)
  | M, 0, _ => rfl
  | M, k + 1, h => by
    have hk : k < M.length := by omega
    have ih := rnK_all M k (by omega)
    have hx := List.getElem?_eq_getElem hk
    rw [rnK_more hx, List.map_set]
    have hl : k < ((rnK M k).map Prod.snd).length := by rw [List.length_map, rnK_len]; exact hk
    rw [List.take_succ_eq_append_getElem (by simpa using hl), List.take_set_of_le (Nat.le_refl _), ih]
    have hl2 : k < (M.map Prod.snd).length := by simpa using hk
    rw [List.take_succ_eq_append_getElem hl2]
    have key : ∀ (a : List Mc) (q : Int) (y : Mc), ren4 q (a ++ [y]) = ren4 q a ++ [⟨q + mwd a, y.lits, y.learnt, y.live⟩] := by
      intro a
      induction a with
      | nil => intro q y; simp [ren4, mwd]
      | cons z r ih2 => intro q y; rw [List.cons_append, ren4, ih2, ren4, mwd, List.cons_append, show q + 1 + (z.lits.length : Int) + (mwd r : Int) = q + ((1 + z.lits.length + mwd r : Nat) : Int) by omega]
    rw [key]
    congr 1
    simp [ofK]
theorem mvK_all : ∀ (M : List Mt) (k : Nat), k ≤ M.length → mvK M k = mvd4 0 ((M.map Prod.snd).take k)
  | M, 0, _ => rfl
  | M, k + 1, h => by
    have hk : k < M.length := by omega
    have ih := mvK_all M k (by omega)
    rw [mvK_more (List.getElem?_eq_getElem hk), ih]
    have hl2 : k < (M.map Prod.snd).length := by simpa using hk
    rw [List.take_succ_eq_append_getElem hl2]
    have key : ∀ (a : List Mc) (q : Int) (y : Mc), mvd4 q (a ++ [y]) = mvd4 q a ++ [(y.pl, q + mwd a)] := by
      intro a
      induction a with
      | nil => intro q y; simp [mvd4, mwd]
      | cons z r ih2 => intro q y; rw [List.cons_append, mvd4, ih2, mvd4, mwd, List.cons_append, show q + 1 + (z.lits.length : Int) + (mwd r : Int) = q + ((1 + z.lits.length + mwd r : Nat) : Int) by omega]
    rw [key]
    congr 1
    simp [ofK]
theorem rowsM_go : ∀ {L : List Mt} {i : Nat} {x : Mt} (h : L[i]? = some x) (p : Int), rowsM (L.set i (x.1, ⟨p, x.2.lits, x.2.learnt, x.2.live⟩)) = (rowsM L).set (i * 4) (.int .i64 p)
  | [], i, x, h, p => by simp at h
  | y :: r, 0, x, h, p => by
    simp at h
    subst h
    rfl
  | y :: r, i + 1, x, h, p => by
    have ih := rowsM_go (L := r) (i := i) (x := x) (by simpa using h) p
    rw [show (i + 1) * 4 = (i * 4) + 1 + 1 + 1 + 1 by omega, List.set_cons_succ]
    rw [show rowsM (y :: r.set i (x.1, ⟨p, x.2.lits, x.2.learnt, x.2.live⟩)) = .int .i64 y.2.pl :: y.1 :: .bool y.2.learnt :: .bool y.2.live :: rowsM (r.set i (x.1, ⟨p, x.2.lits, x.2.learnt, x.2.live⟩)) from rfl, ih]
    rfl
theorem infoV4 : (Try.prog.info? 91).map (fun i => (i.zero, i.size, i.bytes)) = some (some (.agg #[.int .i64 0, .int .i64 0]), 2, 16) := by kernel_rfl
/-- as far as Sweep has come: the live row is new, the moved one too -/
structure Sk4 (B : Nat) (w W : World) (lv mv : Value) (M : List Mt) (k : Nat) : Prop where
  lr : W.ownsRow w.heap.size 46 4 lv M.length (rowsM (rnK M k))
  mr : W.ownsRow w.heap.size 91 2 mv (mvK M k).length (rowsV (mvK M k))
  bel : Below w.heap.size w W
theorem rn_at {M : List Mt} {k : Nat} (h : k < M.length) : (rnK M k)[k]? = some M[k] := (rnK_later M k k (Nat.le_refl _)).trans (List.getElem?_eq_getElem h)
theorem Sk4.cells {B : Nat} {w W : World} {lv mv : Value} {M : List Mt} {k : Nat} (h : Sk4 B w W lv mv M k) (hk : k < M.length) : ∃ g cap, lv = .slice (some ⟨g, 0, none⟩) M.length cap ∧ M.length ≤ cap ∧ w.heap.size ≤ g ∧ W.cell? ⟨g, k * 4, none⟩ = some (.int .i64 M[k].2.pl) ∧ W.cell? ⟨g, k * 4 + 1, none⟩ = some M[k].1 ∧ ∀ j, W.frozen? ⟨g, j, none⟩ = false := by
  rcases h.lr.2 with ⟨e, e2⟩ | ⟨g, cap, cur, e, hbg, hh, hnc, hcm, _⟩
  · omega
  · subst e
    have hc := World.ownsRow.cells h.lr (g := g) rfl
    have hlt : k < (rnK M k).length := by rw [rnK_len]; exact hk
    have hget : (rnK M k)[k] = M[k] := by
      have := rn_at hk
      rw [List.getElem?_eq_getElem hlt] at this
      injection this
    obtain ⟨r0, r1, -, -⟩ := rowsM_at hlt
    rw [hget] at r0 r1
    have a0 := hc _ _ r0
    have a1 := hc _ _ r1
    rw [Addr.add_lit, Nat.zero_add] at a0 a1
    exact ⟨g, cap, rfl, hnc, hbg, a0, a1, fun j => by simp [World.frozen?, hh]⟩
/-- the moved row grows, then the clause's place is written -/
theorem Sk4.more {B : Nat} {w W W2 : World} {g cap : Nat} {mv mv' : Value} {M : List Mt} {k : Nat} (h : Sk4 B w W (.slice (some ⟨g, 0, none⟩) M.length cap) mv M k) (hk : k < M.length)
    (own2 : W2.ownsRow w.heap.size 91 2 mv' ((mvK M k).length + 1) (rowsV (mvK M k) ++ [.int .i64 M[k].2.pl, .int .i64 (ofK M k : Int)])) (gr2 : (W.alloc (.cells #[.int .i64 M[k].2.pl, .int .i64 (ofK M k : Int)] 91)).grownBy W2 mv.ownBlock) :
    Sk4 B w (W2.setCell ⟨g, k * 4, none⟩ (.int .i64 (ofK M k : Int))) (.slice (some ⟨g, 0, none⟩) M.length cap) mv' M (k + 1) ∧ W2.ownsRow w.heap.size 46 4 (.slice (some ⟨g, 0, none⟩) M.length cap) M.length (rowsM (rnK M k)) ∧ Below w.heap.size w W2 := by
  have hs := h.bel.size
  have l1 := World.ownsRow.alloc h.lr (.cells #[.int .i64 M[k].2.pl, .int .i64 (ofK M k : Int)] 91)
  have m1 := World.ownsRow.alloc h.mr (.cells #[.int .i64 M[k].2.pl, .int .i64 (ofK M k : Int)] 91)
  have l2 := row_apart (by decide) l1 m1 gr2
  have b2 : Below w.heap.size w W2 := (h.bel.alloc hs _).grown gr2 (by simp; omega) (fun j hj => (World.ownsRow.lt h.mr j hj).1)
  have st := World.ownsRow.stored l2 (k * 4) (.int .i64 (ofK M k : Int))
  have hx := List.getElem?_eq_getElem hk
  refine ⟨⟨?_, ?_, ?_⟩, l2, b2⟩
  · have e := rowsM_go (rn_at hk) (ofK M k : Int)
    rw [rnK_more hx, e]
    exact st.1
  · rw [mvK_more hx, rowsV_app, List.length_append]
    exact row_apart (by decide) own2 l2 st.2
  · exact b2.setCell (p := ⟨g, k * 4, none⟩) (h.lr.lt g rfl).1 _
/-- what Sweep says -/
def Sw4 (B : Nat) (w : World) (m : Nat) (rv : Value) (L : List Mt) (S : List Seg) (e : Ending) (w' : World) : Prop :=
  ∃ mv lv L', e = .returned mv ∧ w'.ownsRow w.heap.size 91 2 mv (mvd4 0 (live4 (plc 0 S))).length (rowsV (mvd4 0 (live4 (plc 0 S)))) ∧ Mz4 B w' m lv L' (swp S) ∧ Mv w m rv w' lv ∧ (∀ g, lv.ownBlock = some g → w.heap.size ≤ g) ∧ Vs4 w L L' ∧ L'.length ≤ L.length
theorem sw4_fin {B m : Nat} {w W : World} {rv lv mv : Value} {L : List Mt} {S : List Seg} (h : Mz4 B w m rv L S) (hB : B ≤ w.heap.size) (hk : Sk4 B w W lv mv (lvM L) (lvM L).length) : Sw4 B w m rv L S (.returned mv) (W.setCell ⟨m, 0, none⟩ lv) := by
  have hbx : W.heap[m]? = some (.cells #[rv] 62 (0, 0)) := (hk.bel.block m h.ma.lt).trans h.ma.box
  have hset : (W.setCell ⟨m, 0, none⟩ lv).heap[m]? = some (.cells #[lv] 62 (0, 0)) := set_heap4 hbx 0 lv
  have hg := grown_set W ⟨m, 0, none⟩ lv
  have hml : m < w.heap.size := h.ma.lt
  have hM : mvK (lvM L) (lvM L).length = mvd4 0 (live4 (plc 0 S)) := by
    rw [mvK_all _ _ (Nat.le_refl _), List.take_of_length_le (by simp), lvM_snd, h.eq]
  have hR : (rnK (lvM L) (lvM L).length).map Prod.snd = plc 0 (swp S) := by
    have := rnK_all (lvM L) (lvM L).length (Nat.le_refl _)
    rw [List.take_of_length_le (by rw [List.length_map, rnK_len]; exact Nat.le_refl _), List.take_of_length_le (by simp), lvM_snd, h.eq] at this
    rw [this, swp_plc S 0 0]
  have keep : ∀ {e s n : Nat} {x : Value} {xs : List Value}, W.ownsRow w.heap.size e s x n xs → (W.setCell ⟨m, 0, none⟩ lv).ownsRow w.heap.size e s x n xs := fun {e s n x xs} hx => World.ownsRow.kept hx hg (.inr (fun q => by have := (hx.lt m q).1; omega))
  have hmem : ∀ k, ∀ x ∈ rnK (lvM L) k, ∃ y ∈ lvM L, x.1 = y.1 ∧ x.2.lits = y.2.lits := by
    intro k
    induction k with
    | zero => intro x hx; exact ⟨x, hx, rfl, rfl⟩
    | succ k ih =>
      intro x hx
      unfold rnK at hx
      cases e : (lvM L)[k]? with
      | none => rw [e] at hx; exact ih x hx
      | some y =>
        rw [e] at hx
        rcases List.mem_or_eq_of_mem_set hx with q | q
        · exact ih x q
        · exact ⟨y, List.mem_of_getElem? e, by rw [q], by rw [q]⟩
  refine ⟨mv, lv, rnK (lvM L) (lvM L).length, rfl, ?_, ⟨⟨hset, ⟨?_, fun x hx => ?_⟩, h.ma.lo⟩, hR⟩, ?_, fun g hg' => (hk.lr.lt g hg').1, fun x hx => ?_, ?_⟩
  · rw [← hM]; exact keep hk.mr
  · rw [rnK_len]; exact row_mono (keep hk.lr) hB
  · obtain ⟨y, hy, e1, e2⟩ := hmem _ x hx
    rw [e1, e2]
    have ho := (h.ma.ml.own y (lvM_mem hy)).below hk.bel
    refine World.ownsRow.kept ho hg (.inr ?_)
    intro q
    rcases ho.2 with ⟨e, _⟩ | ⟨g', cap', cur, e, _, hh, _⟩
    · rw [e] at q; cases q
    · rw [e] at q
      simp [Value.ownBlock] at q
      subst q
      rw [hbx] at hh
      injection hh with hh
      injection hh with _ hh
      exact absurd hh (by decide)
  · refine ⟨hg.os.trans hk.bel.os, hg.tape.trans hk.bel.tape, hg.output.trans hk.bel.output, Nat.le_trans hk.bel.size hg.size, fun k hk1 h1 h2 => ?_, .inr fun g hg' => (hk.lr.lt g hg').1⟩
    rw [hg.block k (Nat.lt_of_lt_of_le hk1 hk.bel.size) (by simpa using h1)]
    exact hk.bel.block k hk1
  · obtain ⟨y, hy, e1, _⟩ := hmem _ x hx
    exact .inl ⟨y, lvM_mem hy, e1.symm⟩
  · rw [rnK_len]; unfold lvM; exact List.length_filter_le _ _
end Go.Proofs.Ytnglgcipjbpgoaa
