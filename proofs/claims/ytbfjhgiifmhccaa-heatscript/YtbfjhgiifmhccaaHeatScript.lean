/-
  heat: every script of calls of two heats, walked.
  KEEP: set on app at below new trans refl start kept mono lt add none own nil put len pos other cell ty blt fz box k p r pr a0 a1 a2 c0 c1 c2 hb setK setP setR unique grown step fin bij up q1 q2 pl held mk v1 v2 t1 t2 hs few cut root z kl nl sl d1 d2 row down has holds stp bel heat cells sc wi mem srt inn inj out lays ap kind rd rds bump cool weak types foreign rows cong form heat nodup s w ord rest apS apV ht rz goX goY walk set1 set2 mg b0 b1 b2 f0 f1
-/
import Derived.Test.YtbfjhgiifmhccaaHrW
import Derived.Test.YtbfjhgiifmhccaaGrow
import Derived.Test.YtbfjhgiifmhccaaHtX
set_option linter.unusedSimpArgs false
set_option linter.unusedVariables false
namespace Go.Proofs.Ytbfjhgiifmhccaa
open Go Go.RowKit
attribute [local go_sem] run_store_float

/-- the statement's boxes -/
structure ScH (w W : World) (v0 v1 : Int) (d0 d1 : Nat) (vo p0 p1 q0 q1 : Value) : Prop where
  bel : Below w.heap.size w W
  b0 : W.heap[w.heap.size]? = some (.cells #[.int .i64 v0, .int .i64 v1, .float .f64 d0, .float .f64 d1, vo] 27 (0, 0))
  b1 : W.heap[w.heap.size + 1]? = some (.cells #[p0, p1] 29 (0, 0))
  b2 : W.heap[w.heap.size + 1 + 1]? = some (.cells #[q0, q1] 31 (0, 0))
theorem heap_alH (w : World) (o : Obj) (i : Nat) : (w.alloc o).heap[i]? = if i = w.heap.size then some o else w.heap[i]? := by
  by_cases e : i = w.heap.size
  · rw [if_pos e, e]; exact World.alloc_heap_new w o
  · rw [if_neg e]
    by_cases hl : i < w.heap.size
    · exact (below_box w o).block i hl
    · rw [Array.getElem?_eq_none (by rw [World.size_alloc]; omega), Array.getElem?_eq_none (by omega)]
section
variable {w W W' : World} {v0 v1 : Int} {d0 d1 : Nat} {vo p0 p1 q0 q1 : Value}
theorem lt_of_heap {k : Nat} {o : Obj} (h : W.heap[k]? = some o) : k < W.heap.size := (Array.getElem?_eq_some_iff.1 h).1
theorem ScH.below (h : ScH w W v0 v1 d0 d1 vo p0 p1 q0 q1) (hb : Below W.heap.size W W') : ScH w W' v0 v1 d0 d1 vo p0 p1 q0 q1 := ⟨Below.step h.bel hb, (hb.block _ (lt_of_heap h.b0)).trans h.b0, (hb.block _ (lt_of_heap h.b1)).trans h.b1, (hb.block _ (lt_of_heap h.b2)).trans h.b2⟩
theorem ScH.size (h : ScH w W v0 v1 d0 d1 vo p0 p1 q0 q1) : w.heap.size + 3 ≤ W.heap.size := by have := lt_of_heap h.b2; omega
theorem ScH.mg {P P' : Nat → Prop} (h : ScH w W v0 v1 d0 d1 vo p0 p1 q0 q1) (hm : Mf W P W' P') (hP : ∀ k, P k → w.heap.size + 3 ≤ k) : ScH w W' v0 v1 d0 d1 vo p0 p1 q0 q1 := by
  have hne : ∀ k, k < w.heap.size + 3 → ¬ P k := fun k hk h1 => by have := hP k h1; omega
  refine ⟨h.bel.trans ⟨hm.os, hm.tape, hm.output, hm.size, fun k hk => hm.block k (Nat.lt_of_lt_of_le hk h.bel.size) (hne k (by omega))⟩, ?_, ?_, ?_⟩
  · exact (hm.block _ (lt_of_heap h.b0) (hne _ (by omega))).trans h.b0
  · exact (hm.block _ (lt_of_heap h.b1) (hne _ (by omega))).trans h.b1
  · exact (hm.block _ (lt_of_heap h.b2) (hne _ (by omega))).trans h.b2
theorem other_heapH {k : Nat} (a : Addr) (v : Value) (ha : a.block ≠ k) : (W.setCell a v).heap[k]? = W.heap[k]? := by
  show (W.heap.modify a.block _)[k]? = _
  rw [Array.getElem?_modify, if_neg ha]
theorem ScH.set1 (h : ScH w W v0 v1 d0 d1 vo p0 p1 q0 q1) (k : Nat) (v : Value) (hk : k < 2) : ScH w (W.setCell ⟨w.heap.size + 1, k, none⟩ v) v0 v1 d0 d1 vo (if k = 0 then v else p0) (if k = 1 then v else p1) q0 q1 := by
  have h1 : ∀ j, j ≠ w.heap.size + 1 → (W.setCell ⟨w.heap.size + 1, k, none⟩ v).heap[j]? = W.heap[j]? := fun j hj => other_heapH _ _ (fun e => hj e.symm)
  refine ⟨h.bel.setCell (by show w.heap.size ≤ w.heap.size + 1; omega) _, (h1 _ (by omega)).trans h.b0, ?_, (h1 _ (by omega)).trans h.b2⟩
  have := set_heap h.b1 k v
  have hk2 : k = 0 ∨ k = 1 := by omega
  rcases hk2 with rfl | rfl <;> exact this
theorem ScH.set2 (h : ScH w W v0 v1 d0 d1 vo p0 p1 q0 q1) (k : Nat) (v : Value) (hk : k < 2) : ScH w (W.setCell ⟨w.heap.size + 1 + 1, k, none⟩ v) v0 v1 d0 d1 vo p0 p1 (if k = 0 then v else q0) (if k = 1 then v else q1) := by
  have h1 : ∀ j, j ≠ w.heap.size + 1 + 1 → (W.setCell ⟨w.heap.size + 1 + 1, k, none⟩ v).heap[j]? = W.heap[j]? := fun j hj => other_heapH _ _ (fun e => hj e.symm)
  refine ⟨h.bel.setCell (by show w.heap.size ≤ w.heap.size + 1 + 1; omega) _, (h1 _ (by omega)).trans h.b0, (h1 _ (by omega)).trans h.b1, ?_⟩
  have := set_heap h.b2 k v
  have hk2 : k = 0 ∨ k = 1 := by omega
  rcases hk2 with rfl | rfl <;> exact this
theorem ScH.c0 (h : ScH w W v0 v1 d0 d1 vo p0 p1 q0 q1) : W.cell? ⟨w.heap.size, 0, none⟩ = some (.int .i64 v0) ∧ W.cell? ⟨w.heap.size, 1, none⟩ = some (.int .i64 v1) ∧ W.cell? ⟨w.heap.size, 2, none⟩ = some (.float .f64 d0) ∧ W.cell? ⟨w.heap.size, 3, none⟩ = some (.float .f64 d1) ∧ W.cell? ⟨w.heap.size, 4, none⟩ = some vo := by
  have hb := h.b0
  simp [World.cell?, hb]
theorem ScH.c1 (h : ScH w W v0 v1 d0 d1 vo p0 p1 q0 q1) : W.cell? ⟨w.heap.size + 1, 0, none⟩ = some p0 ∧ W.cell? ⟨w.heap.size + 1, 1, none⟩ = some p1 ∧ ∀ j, W.frozen? ⟨w.heap.size + 1, j, none⟩ = false := by
  have hb := h.b1
  simp [World.cell?, World.frozen?, hb]
theorem ScH.c2 (h : ScH w W v0 v1 d0 d1 vo p0 p1 q0 q1) : W.cell? ⟨w.heap.size + 1 + 1, 0, none⟩ = some q0 ∧ W.cell? ⟨w.heap.size + 1 + 1, 1, none⟩ = some q1 ∧ ∀ j, W.frozen? ⟨w.heap.size + 1 + 1, j, none⟩ = false := by
  have hb := h.b2
  simp [World.cell?, World.frozen?, hb]
end
/-- a pair of heats that lies above the statement's boxes -/
def PpH (w W : World) (x : Nat) (v : Hv) (y : Nat) (s : Rv) (n dec : Nat) : Prop := (∃ B C st K H, Ph B C W x v y s n dec st K H st K H) ∧ ∀ k, prH x v y s k → w.heap.size + 3 ≤ k
section
variable {w W W' : World} {x y n dec : Nat} {v : Hv} {s : Rv}
theorem PpH.lt (h : PpH w W x v y s n dec) : ∀ k, prH x v y s k → k < W.heap.size := by obtain ⟨⟨B, C, st, K, H, hp⟩, _⟩ := h; exact hp.lt
theorem PpH.kept (h : PpH w W x v y s n dec) (hk : ∀ k, prH x v y s k → W'.heap[k]? = W.heap[k]?) : PpH w W' x v y s n dec := by obtain ⟨⟨B, C, st, K, H, hp⟩, hn⟩ := h; exact ⟨⟨B, C, st, K, H, hp.kept hk⟩, hn⟩
theorem PpH.below (h : PpH w W x v y s n dec) (hb : Below W.heap.size W W') : PpH w W' x v y s n dec := h.kept fun k hk => hb.block k (h.lt k hk)
theorem PpH.put (h : PpH w W x v y s n dec) (a : Addr) (u : Value) (ha : a.block < w.heap.size + 3) : PpH w (W.setCell a u) x v y s n dec := h.kept fun k hk => other_heapH a u (fun e => by have := h.2 k hk; omega)
/-- both are made -/
theorem pairH_new {W1 W2 : World} {st : Nat} {K : List Nat} {H : Nat → Bool} (hw : w.heap.size + 3 ≤ W.heap.size) (b1 : Below W.heap.size W W1) (ht : Ht W.heap.size W1 x v n dec st K H) (hr : Rz W1.heap.size W2 y s n dec st K H) (b2 : Below W1.heap.size W1 W2) : PpH w W2 x v y s n dec ∧ ∀ k, prH x v y s k → W.heap.size ≤ k := by
  have hb := b1.size
  have hall : ∀ k, prH x v y s k → W.heap.size ≤ k := by
    rintro k (h1 | h1)
    · exact (ht.lt k h1).1
    · have := (hr.lt k h1).1; omega
  refine ⟨⟨⟨_, _, _, _, _, ht.below b2, hr, fun k h1 h2 => ?_⟩, fun k hk => Nat.le_trans hw (hall k hk)⟩, hall⟩
  have h3 := (ht.lt k h1).2
  have h4 := (hr.lt k h2).1
  omega
end
/-- behind so many rounds -/
def StKH (w : World) (v0 v1 : Int) (d0 d1 : Nat) (vo : Value) (k : Nat) (W : World) : Prop :=
  (k = 0 ∧ ScH w W v0 v1 d0 d1 vo (.pointer none) (.pointer none) (.pointer none) (.pointer none)) ∨
  (k = 1 ∧ ∃ x v y s n dec, ScH w W v0 v1 d0 d1 vo (.pointer (some ⟨x, 0, none⟩)) (.pointer none) (.pointer (some ⟨y, 0, none⟩)) (.pointer none) ∧ PpH w W x v y s n dec) ∨
  (k = 2 ∧ ∃ x v y s n dec x' v' y' s' n' dec', ScH w W v0 v1 d0 d1 vo (.pointer (some ⟨x, 0, none⟩)) (.pointer (some ⟨x', 0, none⟩)) (.pointer (some ⟨y, 0, none⟩)) (.pointer (some ⟨y', 0, none⟩)) ∧ PpH w W x v y s n dec ∧ PpH w W x' v' y' s' n' dec' ∧ ∀ k, prH x v y s k → ¬ prH x' v' y' s' k)
namespace heatScript
set_option maxRecDepth 100000 in
set_option maxHeartbeats 12800000 in
theorem walk (v0 v1 : Int) (d0 d1 : Nat) (vo : Value) (ops : List HOp) (w : World) (hd0 : d0 < 18446744073709551616) (hd1 : d1 < 18446744073709551616) (hr : RdH w vo ops) :
    Calls Try.prog 3 #[.agg #[.int .i64 v0, .int .i64 v1, .float .f64 d0, .float .f64 d1, vo]] w fun e w' => e = .returned (.bool true) ∧ Below w.heap.size w w' := by
  obtain ⟨a, c, rfl, h1, h2, h5, h3⟩ := hr
  have HOp : Hid (∀ (W : World) (j : Nat) (hj : j < ops.length), Below w.heap.size w W → ∃ b off, a = some ⟨b, off, none⟩ ∧ b < w.heap.size ∧ W.cell? ⟨b, off + j * 3, none⟩ = some (.int .i64 ops[j].on) ∧
    W.cell? ⟨b, off + j * 3 + 1, none⟩ = some (.int .i64 ops[j].kind) ∧ W.cell? ⟨b, off + j * 3 + 2, none⟩ = some (.int .i64 ops[j].n)) := by
    intro W j hj hW
    obtain ⟨b, off, e1, hl, c0, c1, c2⟩ := h3 j hj
    have hc : ∀ o, W.cell? ⟨b, o, none⟩ = w.cell? ⟨b, o, none⟩ := fun o => hW.cell (p := ⟨b, o, none⟩) hl
    exact ⟨b, off, e1, hl, by rw [hc]; exact c0, by rw [hc]; exact c1, by rw [hc]; exact c2⟩
  have HS0 : Hid (ScH w (((w.alloc (.cells #[.int .i64 v0, .int .i64 v1, .float .f64 d0, .float .f64 d1, .slice a ops.length c] 27)).alloc (.cells #[.pointer none, .pointer none] 29)).alloc (.cells #[.pointer none, .pointer none] 31)) v0 v1 d0 d1 (.slice a ops.length c) (.pointer none) (.pointer none) (.pointer none) (.pointer none)) := by
    refine ⟨Below.step (Below.step (below_box _ _) (below_box _ _)) (below_box _ _), ?_, ?_, ?_⟩
    all_goals (simp only [heap_alH, World.size_alloc]; repeat (first | rw [if_pos True.intro] | rw [if_pos rfl] | rw [if_neg (by omega)]))
  have HPk : Hid (∀ z W, Calls Try.prog 9 #[.int .i64 z, .int .i64 2001] W fun e w' => e = .returned (.int .i64 (pk14 z 2001 : Nat)) ∧ w' = W) := fun z W => pick14_any z 2001 W (by omega) (by omega)
  have HPk2 : Hid (∀ z W, Calls Try.prog 9 #[.int .i64 z, .int .i64 2] W fun e w' => e = .returned (.int .i64 (pk14 z 2 : Nat)) ∧ w' = W) := fun z W => pick14_any z 2 W (by omega) (by omega)
  have HPl : Hid (∀ z, pk14 z 2001 ≤ 1048576) := fun z => by have := pk14_lt z (k := 2001) (by omega); omega
  have H3X : Hid (∀ W, Calls Try.prog 10 #[.int .i64 3, .float .f64 4606732058837280358] W fun e w' => NewS W 3 4606732058837280358 e w') := fun W => new_yes 3 4606732058837280358 W (by omega) (by omega) (by decide +kernel)
  have H3Y : Hid (∀ W, Calls Try.prog 11 #[.int .i64 3, .float .f64 4606732058837280358] W fun e w' => NewRS W 3 4606732058837280358 e w') := fun W => rnew_yes 3 4606732058837280358 W (by omega) (by omega) (by decide +kernel)
  have HD : Hid (d0 < 18446744073709551616 ∧ d1 < 18446744073709551616) := ⟨hd0, hd1⟩
  clear h3 h1 hd0 hd1
  go_enter Try.func3, Try.ntmps3
  go_wp2
  generalize hW0 : (((w.alloc (.cells #[.int .i64 v0, .int .i64 v1, .float .f64 d0, .float .f64 d1, .slice a ops.length c] 27)).alloc (.cells #[.pointer none, .pointer none] 29)).alloc (.cells #[.pointer none, .pointer none] 31)) = W0 at *
  clear hW0
  go_loopg [5] 2 (fun g v5 wr => ∃ k : Nat, k + g = 2 ∧ v5 = .int .i64 k ∧ StKH w v0 v1 d0 d1 (.slice a ops.length c) k wr)
  case atStart => exact ⟨0, by omega, rfl, .inl ⟨rfl, HS0.out⟩⟩
  case round =>
    obtain ⟨k, hk, rfl, hst⟩ := hrel
    rcases hst with ⟨rfl, sc⟩ | ⟨rfl, x0, u0, y0, s0, n0, e0, sc, pp⟩ | ⟨rfl, x0, u0, y0, s0, n0, e0, x1, u1, y1, s1, n1, e1, sc, pp, pp', hdj⟩
    · have SC : Hid (ScH w wr v0 v1 d0 d1 (.slice a ops.length c) (.pointer none) (.pointer none) (.pointer none) (.pointer none)) := sc
      clear sc HS0
      obtain ⟨e00, e01, e02, e03, -⟩ := SC.out.c0
      have hpl := HPl.out v0
      have HN : Hid (∀ W, Calls Try.prog 9 #[.int .i64 v0, .int .i64 2001] W fun e w' => e = .returned (.int .i64 (pk14 v0 2001 : Nat)) ∧ w' = W) := HPk.out v0
      generalize pk14 v0 2001 = N at *
      cases hdc : dcB d0 with
      | true =>
        have HX : Hid (∀ W, Calls Try.prog 10 #[.int .i64 (N : Int), .float .f64 d0] W fun e w' => NewS W N d0 e w') := fun W => new_yes N d0 W hpl HD.out.1 hdc
        have HY : Hid (∀ W, Calls Try.prog 11 #[.int .i64 (N : Int), .float .f64 d0] W fun e w' => NewRS W N d0 e w') := fun W => rnew_yes N d0 W hpl HD.out.1 hdc
        clear hdc
        go_upto_region 16 with (first
          | (go_at_call 9; refine (HN.out _).mono ?_; intro e w8 hh; rw [hh.1, hh.2]; clear hh e w8; dsimp only)
          | (have h3 := HT; clear h3; go_at_call 11; refine (HY.out w3).mono ?_; rintro e w4 ⟨y, s, rfl, hz, b2⟩; have HU : Hid (Rz w3.heap.size w4 y s N d0 4607182418800017408 (List.replicate (N + 1) 0) (fun _ => true) ∧ Below w3.heap.size w3 w4) := ⟨hz, b2⟩; clear hz b2)
          | (go_at_call 10; refine (HX.out wr).mono ?_; rintro e w3 ⟨x, u, rfl, ht, b1⟩; have HT : Hid (Ht wr.heap.size w3 x u N d0 4607182418800017408 (List.replicate (N + 1) 0) (fun _ => true) ∧ Below wr.heap.size wr w3) := ⟨ht, b1⟩; obtain ⟨f00, f01, f02, f03, -⟩ := (SC.out.below b1).c0; clear ht b1))
        have S4 : Hid (ScH w w4 v0 v1 d0 d1 (.slice a ops.length c) (.pointer none) (.pointer none) (.pointer none) (.pointer none)) := (SC.out.below HT.out.2).below HU.out.2
        have HPn : Hid (PpH w w4 x u y s N d0 ∧ ∀ k, prH x u y s k → wr.heap.size ≤ k) := pairH_new SC.out.size HT.out.2 HT.out.1 HU.out.1 HU.out.2
        have a0 := S4.out.c1.1
        have a1 := S4.out.c1.2.2 0
        have a2 := (S4.out.set1 0 (.pointer (some ⟨x, 0, none⟩)) (by decide)).c2.1
        have a3 := (S4.out.set1 0 (.pointer (some ⟨x, 0, none⟩)) (by decide)).c2.2.2 0
        have HFn : Hid (StKH w v0 v1 d0 d1 (.slice a ops.length c) 1 ((w4.setCell ⟨w.heap.size + 1, 0, none⟩ (.pointer (some ⟨x, 0, none⟩))).setCell ⟨w.heap.size + 1 + 1, 0, none⟩ (.pointer (some ⟨y, 0, none⟩)))) := by
          have q1 := (S4.out.set1 0 (.pointer (some ⟨x, 0, none⟩)) (by decide)).set2 0 (.pointer (some ⟨y, 0, none⟩)) (by decide)
          have q2 := (HPn.out.1.put ⟨w.heap.size + 1, 0, none⟩ (.pointer (some ⟨x, 0, none⟩)) (by show w.heap.size + 1 < w.heap.size + 3; omega)).put ⟨w.heap.size + 1 + 1, 0, none⟩ (.pointer (some ⟨y, 0, none⟩)) (by show w.heap.size + 1 + 1 < w.heap.size + 3; omega)
          exact .inr (.inl ⟨rfl, x, u, y, s, _, _, q1, q2⟩)
        clear HX HY HT HU S4 HPn
        go_wp2
        go_roundg (gk - 1)
        case measure => omega
        case rel => exact ⟨1, by omega, by go_num, HFn.out⟩
      | false =>
        have HX : Hid (∀ W, Calls Try.prog 10 #[.int .i64 3, .float .f64 4606732058837280358] W fun e w' => NewS W 3 4606732058837280358 e w') := H3X.out
        have HY : Hid (∀ W, Calls Try.prog 11 #[.int .i64 3, .float .f64 4606732058837280358] W fun e w' => NewRS W 3 4606732058837280358 e w') := H3Y.out
        have HB1 : Hid (Calls Try.prog 10 #[.int .i64 (N : Int), .float .f64 d0] wr fun e w' => e = .returned (.tuple #[.pointer none, .int .i64 2]) ∧ w' = wr) := new_bad N d0 wr hpl hdc
        have HB2 : Hid (Calls Try.prog 11 #[.int .i64 (N : Int), .float .f64 d0] wr fun e w' => e = .returned (.tuple #[.pointer none, .int .i64 2]) ∧ w' = wr) := rnew_bad N d0 wr hpl HD.out.1 hdc
        clear hdc
        go_upto_region 12 with (first
          | (go_at_call 9; refine (HN.out _).mono ?_; intro e w8 hh; rw [hh.1, hh.2]; clear hh e w8; dsimp only)
          | (go_at_call 10; refine HB1.out.mono ?_; intro e w8 hh; rw [hh.1, hh.2]; clear hh e w8; dsimp only)
          | (go_at_call 11; refine HB2.out.mono ?_; intro e w8 hh; rw [hh.1, hh.2]; clear hh e w8; dsimp only))
        go_upto_region 16 with (first
          | (go_at_call 9; refine (HN.out _).mono ?_; intro e w8 hh; rw [hh.1, hh.2]; clear hh e w8; dsimp only)
          | (have h3 := HT; clear h3; go_at_call 11; refine (HY.out w3).mono ?_; rintro e w4 ⟨y, s, rfl, hz, b2⟩; have HU : Hid (Rz w3.heap.size w4 y s 3 4606732058837280358 4607182418800017408 (List.replicate (3 + 1) 0) (fun _ => true) ∧ Below w3.heap.size w3 w4) := ⟨hz, b2⟩; clear hz b2)
          | (go_at_call 10; refine (HX.out wr).mono ?_; rintro e w3 ⟨x, u, rfl, ht, b1⟩; have HT : Hid (Ht wr.heap.size w3 x u 3 4606732058837280358 4607182418800017408 (List.replicate (3 + 1) 0) (fun _ => true) ∧ Below wr.heap.size wr w3) := ⟨ht, b1⟩; obtain ⟨f00, f01, f02, f03, -⟩ := (SC.out.below b1).c0; clear ht b1))
        have S4 : Hid (ScH w w4 v0 v1 d0 d1 (.slice a ops.length c) (.pointer none) (.pointer none) (.pointer none) (.pointer none)) := (SC.out.below HT.out.2).below HU.out.2
        have HPn : Hid (PpH w w4 x u y s 3 4606732058837280358 ∧ ∀ k, prH x u y s k → wr.heap.size ≤ k) := pairH_new SC.out.size HT.out.2 HT.out.1 HU.out.1 HU.out.2
        have a0 := S4.out.c1.1
        have a1 := S4.out.c1.2.2 0
        have a2 := (S4.out.set1 0 (.pointer (some ⟨x, 0, none⟩)) (by decide)).c2.1
        have a3 := (S4.out.set1 0 (.pointer (some ⟨x, 0, none⟩)) (by decide)).c2.2.2 0
        have HFn : Hid (StKH w v0 v1 d0 d1 (.slice a ops.length c) 1 ((w4.setCell ⟨w.heap.size + 1, 0, none⟩ (.pointer (some ⟨x, 0, none⟩))).setCell ⟨w.heap.size + 1 + 1, 0, none⟩ (.pointer (some ⟨y, 0, none⟩)))) := by
          have q1 := (S4.out.set1 0 (.pointer (some ⟨x, 0, none⟩)) (by decide)).set2 0 (.pointer (some ⟨y, 0, none⟩)) (by decide)
          have q2 := (HPn.out.1.put ⟨w.heap.size + 1, 0, none⟩ (.pointer (some ⟨x, 0, none⟩)) (by show w.heap.size + 1 < w.heap.size + 3; omega)).put ⟨w.heap.size + 1 + 1, 0, none⟩ (.pointer (some ⟨y, 0, none⟩)) (by show w.heap.size + 1 + 1 < w.heap.size + 3; omega)
          exact .inr (.inl ⟨rfl, x, u, y, s, _, _, q1, q2⟩)
        clear HX HY HT HU S4 HPn HB1 HB2
        go_wp2
        go_roundg (gk - 1)
        case measure => omega
        case rel => exact ⟨1, by omega, by go_num, HFn.out⟩
    · have SC : Hid (ScH w wr v0 v1 d0 d1 (.slice a ops.length c) (.pointer (some ⟨x0, 0, none⟩)) (.pointer none) (.pointer (some ⟨y0, 0, none⟩)) (.pointer none)) := sc
      have P0 : Hid (PpH w wr x0 u0 y0 s0 n0 e0) := pp
      clear sc HS0 pp
      obtain ⟨e00, e01, e02, e03, -⟩ := SC.out.c0
      have hpl := HPl.out v1
      have HN : Hid (∀ W, Calls Try.prog 9 #[.int .i64 v1, .int .i64 2001] W fun e w' => e = .returned (.int .i64 (pk14 v1 2001 : Nat)) ∧ w' = W) := HPk.out v1
      generalize pk14 v1 2001 = N at *
      cases hdc : dcB d1 with
      | true =>
        have HX : Hid (∀ W, Calls Try.prog 10 #[.int .i64 (N : Int), .float .f64 d1] W fun e w' => NewS W N d1 e w') := fun W => new_yes N d1 W hpl HD.out.2 hdc
        have HY : Hid (∀ W, Calls Try.prog 11 #[.int .i64 (N : Int), .float .f64 d1] W fun e w' => NewRS W N d1 e w') := fun W => rnew_yes N d1 W hpl HD.out.2 hdc
        clear hdc
        go_upto_region 16 with (first
          | (go_at_call 9; refine (HN.out _).mono ?_; intro e w8 hh; rw [hh.1, hh.2]; clear hh e w8; dsimp only)
          | (have h3 := HT; clear h3; go_at_call 11; refine (HY.out w3).mono ?_; rintro e w4 ⟨y, s, rfl, hz, b2⟩; have HU : Hid (Rz w3.heap.size w4 y s N d1 4607182418800017408 (List.replicate (N + 1) 0) (fun _ => true) ∧ Below w3.heap.size w3 w4) := ⟨hz, b2⟩; clear hz b2)
          | (go_at_call 10; refine (HX.out wr).mono ?_; rintro e w3 ⟨x, u, rfl, ht, b1⟩; have HT : Hid (Ht wr.heap.size w3 x u N d1 4607182418800017408 (List.replicate (N + 1) 0) (fun _ => true) ∧ Below wr.heap.size wr w3) := ⟨ht, b1⟩; obtain ⟨f00, f01, f02, f03, -⟩ := (SC.out.below b1).c0; clear ht b1))
        have S4 : Hid (ScH w w4 v0 v1 d0 d1 (.slice a ops.length c) (.pointer (some ⟨x0, 0, none⟩)) (.pointer none) (.pointer (some ⟨y0, 0, none⟩)) (.pointer none)) := (SC.out.below HT.out.2).below HU.out.2
        have HPn : Hid (PpH w w4 x u y s N d1 ∧ ∀ k, prH x u y s k → wr.heap.size ≤ k) := pairH_new SC.out.size HT.out.2 HT.out.1 HU.out.1 HU.out.2
        have P04 : Hid (PpH w w4 x0 u0 y0 s0 n0 e0) := (P0.out.below HT.out.2).below HU.out.2
        have HDj : Hid (∀ k, prH x0 u0 y0 s0 k → ¬ prH x u y s k) := fun k h1 h2 => by have h3 := P0.out.lt k h1; have h4 := HPn.out.2 k h2; omega
        have a0 := S4.out.c1.2.1
        have a1 := S4.out.c1.2.2 1
        have a2 := (S4.out.set1 1 (.pointer (some ⟨x, 0, none⟩)) (by decide)).c2.2.1
        have a3 := (S4.out.set1 1 (.pointer (some ⟨x, 0, none⟩)) (by decide)).c2.2.2 1
        have HFn : Hid (StKH w v0 v1 d0 d1 (.slice a ops.length c) 2 ((w4.setCell ⟨w.heap.size + 1, 1, none⟩ (.pointer (some ⟨x, 0, none⟩))).setCell ⟨w.heap.size + 1 + 1, 1, none⟩ (.pointer (some ⟨y, 0, none⟩)))) := by
          have q1 := (S4.out.set1 1 (.pointer (some ⟨x, 0, none⟩)) (by decide)).set2 1 (.pointer (some ⟨y, 0, none⟩)) (by decide)
          have q2 := (HPn.out.1.put ⟨w.heap.size + 1, 1, none⟩ (.pointer (some ⟨x, 0, none⟩)) (by show w.heap.size + 1 < w.heap.size + 3; omega)).put ⟨w.heap.size + 1 + 1, 1, none⟩ (.pointer (some ⟨y, 0, none⟩)) (by show w.heap.size + 1 + 1 < w.heap.size + 3; omega)
          exact .inr (.inr ⟨rfl, x0, u0, y0, s0, n0, e0, x, u, y, s, _, _, q1, (P04.out.put ⟨w.heap.size + 1, 1, none⟩ (.pointer (some ⟨x, 0, none⟩)) (by show w.heap.size + 1 < w.heap.size + 3; omega)).put ⟨w.heap.size + 1 + 1, 1, none⟩ (.pointer (some ⟨y, 0, none⟩)) (by show w.heap.size + 1 + 1 < w.heap.size + 3; omega), q2, HDj.out⟩)
        clear HX HY HT HU S4 HPn P04 HDj
        go_wp2
        go_roundg (gk - 1)
        case measure => omega
        case rel => exact ⟨2, by omega, by go_num, HFn.out⟩
      | false =>
        have HX : Hid (∀ W, Calls Try.prog 10 #[.int .i64 3, .float .f64 4606732058837280358] W fun e w' => NewS W 3 4606732058837280358 e w') := H3X.out
        have HY : Hid (∀ W, Calls Try.prog 11 #[.int .i64 3, .float .f64 4606732058837280358] W fun e w' => NewRS W 3 4606732058837280358 e w') := H3Y.out
        have HB1 : Hid (Calls Try.prog 10 #[.int .i64 (N : Int), .float .f64 d1] wr fun e w' => e = .returned (.tuple #[.pointer none, .int .i64 2]) ∧ w' = wr) := new_bad N d1 wr hpl hdc
        have HB2 : Hid (Calls Try.prog 11 #[.int .i64 (N : Int), .float .f64 d1] wr fun e w' => e = .returned (.tuple #[.pointer none, .int .i64 2]) ∧ w' = wr) := rnew_bad N d1 wr hpl HD.out.2 hdc
        clear hdc
        go_upto_region 12 with (first
          | (go_at_call 9; refine (HN.out _).mono ?_; intro e w8 hh; rw [hh.1, hh.2]; clear hh e w8; dsimp only)
          | (go_at_call 10; refine HB1.out.mono ?_; intro e w8 hh; rw [hh.1, hh.2]; clear hh e w8; dsimp only)
          | (go_at_call 11; refine HB2.out.mono ?_; intro e w8 hh; rw [hh.1, hh.2]; clear hh e w8; dsimp only))
        go_upto_region 16 with (first
          | (go_at_call 9; refine (HN.out _).mono ?_; intro e w8 hh; rw [hh.1, hh.2]; clear hh e w8; dsimp only)
          | (have h3 := HT; clear h3; go_at_call 11; refine (HY.out w3).mono ?_; rintro e w4 ⟨y, s, rfl, hz, b2⟩; have HU : Hid (Rz w3.heap.size w4 y s 3 4606732058837280358 4607182418800017408 (List.replicate (3 + 1) 0) (fun _ => true) ∧ Below w3.heap.size w3 w4) := ⟨hz, b2⟩; clear hz b2)
          | (go_at_call 10; refine (HX.out wr).mono ?_; rintro e w3 ⟨x, u, rfl, ht, b1⟩; have HT : Hid (Ht wr.heap.size w3 x u 3 4606732058837280358 4607182418800017408 (List.replicate (3 + 1) 0) (fun _ => true) ∧ Below wr.heap.size wr w3) := ⟨ht, b1⟩; obtain ⟨f00, f01, f02, f03, -⟩ := (SC.out.below b1).c0; clear ht b1))
        have S4 : Hid (ScH w w4 v0 v1 d0 d1 (.slice a ops.length c) (.pointer (some ⟨x0, 0, none⟩)) (.pointer none) (.pointer (some ⟨y0, 0, none⟩)) (.pointer none)) := (SC.out.below HT.out.2).below HU.out.2
        have HPn : Hid (PpH w w4 x u y s 3 4606732058837280358 ∧ ∀ k, prH x u y s k → wr.heap.size ≤ k) := pairH_new SC.out.size HT.out.2 HT.out.1 HU.out.1 HU.out.2
        have P04 : Hid (PpH w w4 x0 u0 y0 s0 n0 e0) := (P0.out.below HT.out.2).below HU.out.2
        have HDj : Hid (∀ k, prH x0 u0 y0 s0 k → ¬ prH x u y s k) := fun k h1 h2 => by have h3 := P0.out.lt k h1; have h4 := HPn.out.2 k h2; omega
        have a0 := S4.out.c1.2.1
        have a1 := S4.out.c1.2.2 1
        have a2 := (S4.out.set1 1 (.pointer (some ⟨x, 0, none⟩)) (by decide)).c2.2.1
        have a3 := (S4.out.set1 1 (.pointer (some ⟨x, 0, none⟩)) (by decide)).c2.2.2 1
        have HFn : Hid (StKH w v0 v1 d0 d1 (.slice a ops.length c) 2 ((w4.setCell ⟨w.heap.size + 1, 1, none⟩ (.pointer (some ⟨x, 0, none⟩))).setCell ⟨w.heap.size + 1 + 1, 1, none⟩ (.pointer (some ⟨y, 0, none⟩)))) := by
          have q1 := (S4.out.set1 1 (.pointer (some ⟨x, 0, none⟩)) (by decide)).set2 1 (.pointer (some ⟨y, 0, none⟩)) (by decide)
          have q2 := (HPn.out.1.put ⟨w.heap.size + 1, 1, none⟩ (.pointer (some ⟨x, 0, none⟩)) (by show w.heap.size + 1 < w.heap.size + 3; omega)).put ⟨w.heap.size + 1 + 1, 1, none⟩ (.pointer (some ⟨y, 0, none⟩)) (by show w.heap.size + 1 + 1 < w.heap.size + 3; omega)
          exact .inr (.inr ⟨rfl, x0, u0, y0, s0, n0, e0, x, u, y, s, _, _, q1, (P04.out.put ⟨w.heap.size + 1, 1, none⟩ (.pointer (some ⟨x, 0, none⟩)) (by show w.heap.size + 1 < w.heap.size + 3; omega)).put ⟨w.heap.size + 1 + 1, 1, none⟩ (.pointer (some ⟨y, 0, none⟩)) (by show w.heap.size + 1 + 1 < w.heap.size + 3; omega), q2, HDj.out⟩)
        clear HX HY HT HU S4 HPn HB1 HB2 P04 HDj
        go_wp2
        go_roundg (gk - 1)
        case measure => omega
        case rel => exact ⟨2, by omega, by go_num, HFn.out⟩
    · have SC0 : Hid (ScH w wr v0 v1 d0 d1 (.slice a ops.length c) (.pointer (some ⟨x0, 0, none⟩)) (.pointer (some ⟨x1, 0, none⟩)) (.pointer (some ⟨y0, 0, none⟩)) (.pointer (some ⟨y1, 0, none⟩))) := sc
      have HI0 : Hid (PpH w wr x0 u0 y0 s0 n0 e0 ∧ PpH w wr x1 u1 y1 s1 n1 e1 ∧ ∀ k, prH x0 u0 y0 s0 k → ¬ prH x1 u1 y1 s1 k) := ⟨pp, pp', hdj⟩
      clear sc pp pp' hdj HS0 hk HPk HPl H3X H3Y HD
      have e2 := SC0.out.c0.2.2.2.2
      go_wp2
      clear e2
      go_loopg [11] ops.length (fun g v10 wq => ∃ (i : Nat) (t0 t1 : Hv), i + g = ops.length ∧ v10 = .int .i64 i ∧ ScH w wq v0 v1 d0 d1 (.slice a ops.length c) (.pointer (some ⟨x0, 0, none⟩)) (.pointer (some ⟨x1, 0, none⟩)) (.pointer (some ⟨y0, 0, none⟩)) (.pointer (some ⟨y1, 0, none⟩)) ∧ PpH w wq x0 t0 y0 s0 n0 e0 ∧ PpH w wq x1 t1 y1 s1 n1 e1 ∧ ∀ k, prH x0 t0 y0 s0 k → ¬ prH x1 t1 y1 s1 k)
      case atStart => exact ⟨0, u0, u1, by omega, rfl, SC0.out, HI0.out.1, HI0.out.2.1, HI0.out.2.2⟩
      case round =>
        obtain ⟨i, t0, t1, hi, rfl, sc, q0, q1, hdj⟩ := hrel
        have HI : Hid (i + gk = ops.length) := hi
        have SC : Hid (ScH w wr v0 v1 d0 d1 (.slice a ops.length c) (.pointer (some ⟨x0, 0, none⟩)) (.pointer (some ⟨x1, 0, none⟩)) (.pointer (some ⟨y0, 0, none⟩)) (.pointer (some ⟨y1, 0, none⟩))) := sc
        have Q0 : Hid (PpH w wr x0 t0 y0 s0 n0 e0) := q0
        have Q1 : Hid (PpH w wr x1 t1 y1 s1 n1 e1) := q1
        have HDj : Hid (∀ k, prH x0 t0 y0 s0 k → ¬ prH x1 t1 y1 s1 k) := hdj
        clear sc q0 q1 hdj SC0 HI0
        have e2 := SC.out.c0.2.2.2.2
        by_cases hlt : i < ops.length
        · obtain ⟨bo, off, rfl, hbo, d0', d1', d2'⟩ := HOp.out wr i hlt SC.out.bel
          have hp := pk14_lt ops[i].on (k := 2) (by omega)
          have HPo : Hid (∀ W, Calls Try.prog 9 #[.int .i64 ops[i].on, .int .i64 2] W fun e w' => e = .returned (.int .i64 (pk14 ops[i].on 2 : Nat)) ∧ w' = W) := HPk2.out ops[i].on
          clear hi
          generalize ops[i].kind = ok at *
          generalize ops[i].n = on at *
          generalize ops[i].on = oo at *
          generalize pk14 oo 2 = p at *
          rcases (show p = 0 ∨ p = 1 by omega) with rfl | rfl
          · have HStp : Hid (∀ W, Below wr.heap.size wr W → Calls Try.prog 12 #[.pointer (some ⟨x0, 0, none⟩), .pointer (some ⟨y0, 0, none⟩), .agg #[.int .i64 oo, .int .i64 ok, .int .i64 on]] W fun e w' => e = .returned (.bool true) ∧ ∃ v', PpH w w' x0 v' y0 s0 n0 e0 ∧ Mf W (prH x0 t0 y0 s0) w' (prH x0 v' y0 s0)) := fun W hW => by
              obtain ⟨⟨B, C, st, K, H, hp⟩, hnw⟩ := Q0.out
              have hsz := SC.out.size
              have hsW := hW.size
              refine (step_any14 B C x0 t0 y0 s0 n0 e0 st K H oo ok on W (hp.below hW)).mono fun e w' hh => ?_
              obtain ⟨he, v', st', K', H', h1, h2⟩ := hh
              refine ⟨he, v', ⟨⟨B, C, st', K', H', h1⟩, fun k hk => ?_⟩, h2⟩
              rcases h2.new k hk with h3 | h3
              · exact hnw k h3
              · omega
            have g1 := SC.out.c1.1
            have g2 := SC.out.c2.1
            go_upto_region 22 with (go_at_call 9; refine (HPo.out _).mono ?_; intro e w8 hh; rw [hh.1, hh.2]; clear hh e w8; dsimp only)
            go_region_law (go_simp; go_at_call 12; refine (HStp.out _ (Below.refl _ _).drew).mono ?_; intro e w9 hh; obtain ⟨he, v', hp, hm⟩ := hh; rw [he]; clear he; have F9 : Hid (ScH w w9 v0 v1 d0 d1 (.slice (some ⟨bo, off, none⟩) ops.length c) (.pointer (some ⟨x0, 0, none⟩)) (.pointer (some ⟨x1, 0, none⟩)) (.pointer (some ⟨y0, 0, none⟩)) (.pointer (some ⟨y1, 0, none⟩)) ∧ PpH w w9 x0 v' y0 s0 n0 e0 ∧ PpH w w9 x1 t1 y1 s1 n1 e1 ∧ ∀ k, prH x0 v' y0 s0 k → ¬ prH x1 t1 y1 s1 k) := by { exact ⟨(SC.out.below (Below.refl _ _).drew).mg hm Q0.out.2, hp, (Q1.out.below (Below.refl _ _).drew).kept fun k hk => hm.block k ((Q1.out.below (Below.refl _ _).drew).lt k hk) (fun h1 => HDj.out k h1 hk), fun k h1 h2 => by
                        rcases hm.new k h1 with h3 | h3
                        · exact HDj.out k h3 h2
                        · have := (Q1.out.below (Below.refl _ _).drew).lt k h2; omega⟩ }; clear hp hm; dsimp only)
            all_goals
              go_wp2
              go_roundg (gk - 1)
              case measure => have := HI.out; omega
              case rel => exact ⟨i + 1, v', t1, by have := HI.out; omega, by go_num, F9.out.1, F9.out.2.1, F9.out.2.2.1, F9.out.2.2.2⟩
          · have HStp : Hid (∀ W, Below wr.heap.size wr W → Calls Try.prog 12 #[.pointer (some ⟨x1, 0, none⟩), .pointer (some ⟨y1, 0, none⟩), .agg #[.int .i64 oo, .int .i64 ok, .int .i64 on]] W fun e w' => e = .returned (.bool true) ∧ ∃ v', PpH w w' x1 v' y1 s1 n1 e1 ∧ Mf W (prH x1 t1 y1 s1) w' (prH x1 v' y1 s1)) := fun W hW => by
              obtain ⟨⟨B, C, st, K, H, hp⟩, hnw⟩ := Q1.out
              have hsz := SC.out.size
              have hsW := hW.size
              refine (step_any14 B C x1 t1 y1 s1 n1 e1 st K H oo ok on W (hp.below hW)).mono fun e w' hh => ?_
              obtain ⟨he, v', st', K', H', h1, h2⟩ := hh
              refine ⟨he, v', ⟨⟨B, C, st', K', H', h1⟩, fun k hk => ?_⟩, h2⟩
              rcases h2.new k hk with h3 | h3
              · exact hnw k h3
              · omega
            have g1 := SC.out.c1.2.1
            have g2 := SC.out.c2.2.1
            go_upto_region 22 with (go_at_call 9; refine (HPo.out _).mono ?_; intro e w8 hh; rw [hh.1, hh.2]; clear hh e w8; dsimp only)
            go_region_law (go_simp; go_at_call 12; refine (HStp.out _ (Below.refl _ _).drew).mono ?_; intro e w9 hh; obtain ⟨he, v', hp, hm⟩ := hh; rw [he]; clear he; have F9 : Hid (ScH w w9 v0 v1 d0 d1 (.slice (some ⟨bo, off, none⟩) ops.length c) (.pointer (some ⟨x0, 0, none⟩)) (.pointer (some ⟨x1, 0, none⟩)) (.pointer (some ⟨y0, 0, none⟩)) (.pointer (some ⟨y1, 0, none⟩)) ∧ PpH w w9 x0 t0 y0 s0 n0 e0 ∧ PpH w w9 x1 v' y1 s1 n1 e1 ∧ ∀ k, prH x0 t0 y0 s0 k → ¬ prH x1 v' y1 s1 k) := by { exact ⟨(SC.out.below (Below.refl _ _).drew).mg hm Q1.out.2, (Q0.out.below (Below.refl _ _).drew).kept fun k hk => hm.block k ((Q0.out.below (Below.refl _ _).drew).lt k hk) (fun h1 => HDj.out k hk h1), hp, fun k h1 h2 => by
                        rcases hm.new k h2 with h3 | h3
                        · exact HDj.out k h1 h3
                        · have := (Q0.out.below (Below.refl _ _).drew).lt k h1; omega⟩ }; clear hp hm; dsimp only)
            all_goals
              go_wp2
              go_roundg (gk - 1)
              case measure => have := HI.out; omega
              case rel => exact ⟨i + 1, t0, v', by have := HI.out; omega, by go_num, F9.out.1, F9.out.2.1, F9.out.2.2.1, F9.out.2.2.2⟩
        · obtain rfl : i = ops.length := by omega
          clear hi HI
          have g0 := SC.out.c1.1
          have g1 := SC.out.c2.1
          have HW0 : Hid (Calls Try.prog 13 #[.pointer (some ⟨x0, 0, none⟩), .pointer (some ⟨y0, 0, none⟩)] wr fun e w' => e = .returned (.bool true) ∧ Below wr.heap.size wr w') := by
            obtain ⟨⟨B, C, st, K, H, hp⟩, _⟩ := Q0.out
            exact whole_any14 B C x0 t0 y0 s0 n0 e0 st K H wr hp
          have HW1 : Hid (∀ W, Below wr.heap.size wr W → Calls Try.prog 13 #[.pointer (some ⟨x1, 0, none⟩), .pointer (some ⟨y1, 0, none⟩)] W fun e w' => e = .returned (.bool true) ∧ Below W.heap.size W w') := fun W hW => by
            obtain ⟨⟨B, C, st, K, H, hp⟩, _⟩ := Q1.out
            exact whole_any14 B C x1 t1 y1 s1 n1 e1 st K H W (hp.below hW)
          go_wp2_with fail
          refine HW0.out.mono ?_
          rintro e w5 ⟨rfl, bel5⟩
          have SC5 : Hid (ScH w w5 v0 v1 d0 d1 (.slice a ops.length c) (.pointer (some ⟨x0, 0, none⟩)) (.pointer (some ⟨x1, 0, none⟩)) (.pointer (some ⟨y0, 0, none⟩)) (.pointer (some ⟨y1, 0, none⟩))) := SC.out.below bel5
          have C5 : Hid (Calls Try.prog 13 #[.pointer (some ⟨x1, 0, none⟩), .pointer (some ⟨y1, 0, none⟩)] w5 fun e w' => e = .returned (.bool true) ∧ Below w5.heap.size w5 w') := HW1.out w5 bel5
          clear bel5 g0 g1 HW1 HW0
          have g0 := SC5.out.c1.2.1
          have g1 := SC5.out.c2.2.1
          go_wp2_with fail
          refine C5.out.mono ?_
          rintro e w6 ⟨rfl, bel6⟩
          have HW : Hid (Below w.heap.size w w6) := Below.step SC5.out.bel bel6
          clear bel6
          go_wp2
          go_ret
          exact ⟨rfl, HW.out⟩
end heatScript
end Go.Proofs.Ytbfjhgiifmhccaa
