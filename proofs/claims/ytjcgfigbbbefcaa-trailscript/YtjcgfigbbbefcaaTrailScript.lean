/-
  trail: every script of calls of two trails, walked.
  KEEP: set on app at below new trans refl start ap kept rd rds mono
-/
import Derived.Test.YtjcgfigbbbefcaaTrSt
set_option linter.unusedSimpArgs false
set_option linter.unusedVariables false
namespace Go.Proofs.Ytjcgfigbbbefcaa
open Go Go.RowKit

/-- the statement's boxes -/
structure Sc (w W : World) (v0 v1 : Int) (vo p0 p1 q0 q1 : Value) : Prop where
  bel : Below w.heap.size w W
  b0 : Bx3 W w.heap.size 25 (.int .i64 v0) (.int .i64 v1) vo
  b1 : Bx2 W (w.heap.size + 1) 27 p0 p1
  b2 : Bx2 W (w.heap.size + 1 + 1) 29 q0 q1
section
variable {w W W' : World} {v0 v1 : Int} {vo p0 p1 q0 q1 : Value}
theorem Sc.below (h : Sc w W v0 v1 vo p0 p1 q0 q1) (hb : Below W.heap.size W W') : Sc w W' v0 v1 vo p0 p1 q0 q1 := ⟨Below.step h.bel hb, h.b0.below hb, h.b1.below hb, h.b2.below hb⟩
theorem Sc.mg {P P' : Nat → Prop} (h : Sc w W v0 v1 vo p0 p1 q0 q1) (hm : Mg W P W' P') (hP : ∀ k, P k → w.heap.size + 3 ≤ k) : Sc w W' v0 v1 vo p0 p1 q0 q1 := by
  have hne : ∀ k, k < w.heap.size + 3 → ¬ P k := fun k hk h1 => by have := hP k h1; omega
  refine ⟨h.bel.trans ⟨hm.os, hm.tape, hm.output, hm.size, fun k hk => hm.block k (Nat.lt_of_lt_of_le hk h.bel.size) (hne k (by omega))⟩, ?_, ?_, ?_⟩
  · exact (hm.block _ h.b0.lt (hne _ (by omega))).trans h.b0
  · exact (hm.block _ h.b1.lt (hne _ (by omega))).trans h.b1
  · exact (hm.block _ h.b2.lt (hne _ (by omega))).trans h.b2
theorem other_heap {g k : Nat} (a : Addr) (v : Value) (ha : a.block ≠ k) : (W.setCell a v).heap[k]? = W.heap[k]? := by
  show (W.heap.modify a.block _)[k]? = _
  rw [Array.getElem?_modify, if_neg ha]
theorem Sc.set1 (h : Sc w W v0 v1 vo p0 p1 q0 q1) (k : Nat) (v : Value) (hk : k < 2) : Sc w (W.setCell ⟨w.heap.size + 1, k, none⟩ v) v0 v1 vo (if k = 0 then v else p0) (if k = 1 then v else p1) q0 q1 := by
  have h1 : ∀ j, j ≠ w.heap.size + 1 → (W.setCell ⟨w.heap.size + 1, k, none⟩ v).heap[j]? = W.heap[j]? := fun j hj => other_heap (g := 0) _ _ (fun e => hj e.symm)
  refine ⟨h.bel.setCell (by show w.heap.size ≤ w.heap.size + 1; omega) _, (h1 _ (by omega)).trans h.b0, ?_, (h1 _ (by omega)).trans h.b2⟩
  have := set_heap h.b1 k v
  have hk2 : k = 0 ∨ k = 1 := by omega
  rcases hk2 with rfl | rfl <;> exact this
theorem Sc.set2 (h : Sc w W v0 v1 vo p0 p1 q0 q1) (k : Nat) (v : Value) (hk : k < 2) : Sc w (W.setCell ⟨w.heap.size + 1 + 1, k, none⟩ v) v0 v1 vo p0 p1 (if k = 0 then v else q0) (if k = 1 then v else q1) := by
  have h1 : ∀ j, j ≠ w.heap.size + 1 + 1 → (W.setCell ⟨w.heap.size + 1 + 1, k, none⟩ v).heap[j]? = W.heap[j]? := fun j hj => other_heap (g := 0) _ _ (fun e => hj e.symm)
  refine ⟨h.bel.setCell (by show w.heap.size ≤ w.heap.size + 1 + 1; omega) _, (h1 _ (by omega)).trans h.b0, (h1 _ (by omega)).trans h.b1, ?_⟩
  have := set_heap h.b2 k v
  have hk2 : k = 0 ∨ k = 1 := by omega
  rcases hk2 with rfl | rfl <;> exact this
end
/-- a pair of trails that lies above the statement's boxes -/
structure Pp (w W : World) (x : Nat) (s : Sl) (y : Nat) (u : Value) (n : Nat) (R : List Pl) : Prop where
  p : Pq W x s y u n R R
  new : ∀ k, prP x s y u k → w.heap.size + 3 ≤ k
theorem Pp.below {w W W' : World} {x y : Nat} {s : Sl} {u : Value} {n : Nat} {R : List Pl} (h : Pp w W x s y u n R) (hb : Below W.heap.size W W') : Pp w W' x s y u n R := ⟨h.p.below hb, h.new⟩
theorem Pp.set {w W : World} {x y : Nat} {s : Sl} {u : Value} {n : Nat} {R : List Pl} (h : Pp w W x s y u n R) (a : Addr) (v : Value) (ha : a.block < w.heap.size + 3) : Pp w (W.setCell a v) x s y u n R :=
  ⟨h.p.kept fun k hk => other_heap (g := 0) a v (fun e => by have := h.new k hk; omega), h.new⟩
/-- both are made -/
theorem pair_new {w W W1 W2 : World} {x : Nat} {s : Sl} {n : Nat} (hw : w.heap.size + 3 ≤ W.heap.size) (b1 : Below W.heap.size W W1) (ht : Tr W1 x s n []) (hx : ∀ k, s.own x k → W.heap.size ≤ k) (hr : Rf W2 W1.heap.size (.slice none 0 0) n []) (b2 : Below W1.heap.size W1 W2) : Pp w W2 x s W1.heap.size (.slice none 0 0) n [] := by
  refine ⟨⟨ht.below b2, hr, ?_⟩, ?_⟩
  · rintro k h1 (h2 | h2)
    · have := ht.q.lt k h1; omega
    · simp [Value.ownBlock] at h2
  · rintro k (h1 | h1 | h1)
    · have := hx k h1; omega
    · have := b1.size; omega
    · simp [Value.ownBlock] at h1

/-- behind so many rounds -/
def StK (w : World) (v0 v1 : Int) (vo : Value) (k : Nat) (W : World) : Prop :=
  w.heap.size + 3 ≤ W.heap.size ∧
  ((k = 0 ∧ Sc w W v0 v1 vo (.pointer none) (.pointer none) (.pointer none) (.pointer none)) ∨
   (k = 1 ∧ ∃ x s y u n, Sc w W v0 v1 vo (.pointer (some ⟨x, 0, none⟩)) (.pointer none) (.pointer (some ⟨y, 0, none⟩)) (.pointer none) ∧ Pp w W x s y u n []) ∨
   (k = 2 ∧ ∃ x s y u n x' s' y' u' n', Sc w W v0 v1 vo (.pointer (some ⟨x, 0, none⟩)) (.pointer (some ⟨x', 0, none⟩)) (.pointer (some ⟨y, 0, none⟩)) (.pointer (some ⟨y', 0, none⟩)) ∧ Pp w W x s y u n [] ∧ Pp w W x' s' y' u' n' [] ∧ ∀ k, prP x s y u k → ¬ prP x' s' y' u' k))

set_option maxRecDepth 100000 in
set_option maxHeartbeats 12800000 in
theorem trailScript_walk (v0 v1 : Int) (vo : Value) (ops : List TOp) (w : World) (hr : RdT w vo ops) :
    Calls Try.prog 3 #[.agg #[.int .i64 v0, .int .i64 v1, vo]] w fun e w' => e = .returned (.bool true) ∧ Below w.heap.size w w' := by
  obtain ⟨a, c, rfl, h1, h2, h5, h3⟩ := hr
  have HOp : Hid (∀ (W : World) (j : Nat) (hj : j < ops.length), Below w.heap.size w W → ∃ b off u, a = some ⟨b, off, none⟩ ∧ b < w.heap.size ∧ W.cell? ⟨b, off + j * 5, none⟩ = some (.int .i64 ops[j].on) ∧
    W.cell? ⟨b, off + j * 5 + 1, none⟩ = some (.int .i64 ops[j].kind) ∧ W.cell? ⟨b, off + j * 5 + 2, none⟩ = some (.int .i64 ops[j].n) ∧ W.cell? ⟨b, off + j * 5 + 3, none⟩ = some (.int .i64 ops[j].m) ∧ W.cell? ⟨b, off + j * 5 + 4, none⟩ = some u ∧ Rd W u ops[j].c) := by
    intro W j hj hW
    obtain ⟨b, off, u, e1, hl, c0, c1, c2, c3, c4, hr⟩ := h3 j hj
    have hc : ∀ o, W.cell? ⟨b, o, none⟩ = w.cell? ⟨b, o, none⟩ := fun o => hW.cell (p := ⟨b, o, none⟩) hl
    exact ⟨b, off, u, e1, hl, by rw [hc]; exact c0, by rw [hc]; exact c1, by rw [hc]; exact c2, by rw [hc]; exact c3, by rw [hc]; exact c4, hr.below hW⟩
  have HS0 : Hid (Sc w (((w.alloc (.cells #[.int .i64 v0, .int .i64 v1, .slice a ops.length c] 25)).alloc (.cells #[.pointer none, .pointer none] 27)).alloc (.cells #[.pointer none, .pointer none] 29)) v0 v1 (.slice a ops.length c) (.pointer none) (.pointer none) (.pointer none) (.pointer none)) := by
    refine ⟨Below.step (Below.step (below_box _ _) (below_box _ _)) (below_box _ _), ?_, ?_, ?_⟩
    all_goals (first | unfold Bx3 | unfold Bx2)
    all_goals (simp only [heap_al, World.size_alloc]; repeat (first | rw [if_pos True.intro] | rw [if_pos rfl] | rw [if_neg (by omega)]))
  have HZ0 : Hid ((((w.alloc (.cells #[.int .i64 v0, .int .i64 v1, .slice a ops.length c] 25)).alloc (.cells #[.pointer none, .pointer none] 27)).alloc (.cells #[.pointer none, .pointer none] 29)).heap.size = w.heap.size + 3) := by show _ = _; simp only [World.size_alloc]
  clear h3 h1
  go_enter Try.func3, Try.ntmps3
  go_wp2
  generalize hW0 : (((w.alloc (.cells #[.int .i64 v0, .int .i64 v1, .slice a ops.length c] 25)).alloc (.cells #[.pointer none, .pointer none] 27)).alloc (.cells #[.pointer none, .pointer none] 29)) = W0 at *
  clear hW0
  go_loopg [5] 2 (fun g v5 wr => ∃ k : Nat, k + g = 2 ∧ v5 = .int .i64 k ∧ StK w v0 v1 (.slice a ops.length c) k wr)
  case atStart => exact ⟨0, by omega, rfl, by rw [StK, HZ0.out]; exact ⟨Nat.le_refl _, .inl ⟨rfl, HS0.out⟩⟩⟩
  case round =>
    obtain ⟨k, hk, rfl, hsz, hst⟩ := hrel
    have HSz : Hid (w.heap.size + 3 ≤ wr.heap.size) := hsz
    clear hsz
    rcases hst with ⟨rfl, sc⟩ | ⟨rfl, x0, s0, y0, u0, n0, sc, pp⟩ | ⟨rfl, x0, s0, y0, u0, n0, x1, s1, y1, u1, n1, sc, pp, pp', hdj⟩
    · have SC : Hid (Sc w wr v0 v1 (.slice a ops.length c) (.pointer none) (.pointer none) (.pointer none) (.pointer none)) := sc
      clear sc HS0
      obtain ⟨e0, e1, -⟩ := SC.out.b0.c
      by_cases hv : 0 ≤ v0 ∧ v0 ≤ 1048576
      · go_wp2_with fail
        refine (trNew_any v0 wr hv).mono ?_
        rintro e w3 ⟨x, s, rfl, ht, b1, hx⟩
        have S3 : Hid (Sc w w3 v0 v1 (.slice a ops.length c) (.pointer none) (.pointer none) (.pointer none) (.pointer none)) := SC.out.below b1
        have HT : Hid (Tr w3 x s v0.toNat [] ∧ Below wr.heap.size wr w3 ∧ ∀ k, s.own x k → wr.heap.size ≤ k) := ⟨ht, b1, hx⟩
        clear ht b1 hx
        have a := S3.out.b0.c
        obtain ⟨a0, a1, -⟩ := a
        go_wp2_with fail
        refine (rNew_any v0 w3 hv).mono ?_
        rintro e w4 ⟨rfl, hrf, b2⟩
        have HPn : Hid (Pp w w4 x s w3.heap.size (.slice none 0 0) v0.toNat []) := pair_new HSz.out HT.out.2.1 HT.out.1 HT.out.2.2 hrf b2
        have S4 : Hid (Sc w w4 v0 v1 (.slice a ops.length c) (.pointer none) (.pointer none) (.pointer none) (.pointer none)) := S3.out.below b2
        have HSz4 : Hid (w.heap.size + 3 ≤ w4.heap.size) := by have h9 := HSz.out; have h8 := HT.out.2.1.size; have h7 := b2.size; show _ ≤ _; omega
        clear hrf b2 a0 a1
        have a0 := S4.out.b1.c0
        have a1 := S4.out.b1.f0
        have a2 := ((S4.out.set1 0 (.pointer (some ⟨x, 0, none⟩)) (by decide))).b2.c0
        have a3 := ((S4.out.set1 0 (.pointer (some ⟨x, 0, none⟩)) (by decide))).b2.f0
        have HFn : Hid (StK w v0 v1 (.slice a ops.length c) 1 ((w4.setCell ⟨w.heap.size + 1, 0, none⟩ (.pointer (some ⟨x, 0, none⟩))).setCell ⟨w.heap.size + 1 + 1, 0, none⟩ (.pointer (some ⟨w3.heap.size, 0, none⟩)))) := by
          have q1 := (S4.out.set1 0 (.pointer (some ⟨x, 0, none⟩)) (by decide)).set2 0 (.pointer (some ⟨w3.heap.size, 0, none⟩)) (by decide)
          have q2 := (HPn.out.set ⟨w.heap.size + 1, 0, none⟩ (.pointer (some ⟨x, 0, none⟩)) (by show w.heap.size + 1 < w.heap.size + 3; omega)).set ⟨w.heap.size + 1 + 1, 0, none⟩ (.pointer (some ⟨w3.heap.size, 0, none⟩)) (by show w.heap.size + 1 + 1 < w.heap.size + 3; omega)
          refine ⟨by simp only [World.setCell, Array.size_modify]; exact HSz4.out, .inr (.inl ⟨rfl, x, s, _, _, _, q1, q2⟩)⟩
        go_wp2
        go_roundg (gk - 1)
        case measure => omega
        case rel => exact ⟨1, by omega, by go_num, HFn.out⟩
      · have HB1 : Hid (Calls Try.prog 9 #[.int .i64 v0] wr fun e w' => e = .returned (.tuple #[.pointer none, .int .i64 2]) ∧ w' = wr) := trNew_bad v0 wr hv
        have HB2 : Hid (Calls Try.prog 10 #[.int .i64 v0] wr fun e w' => e = .returned (.tuple #[.pointer none, .int .i64 2]) ∧ w' = wr) := rNew_bad v0 wr hv
        clear hv
        go_wp2_with fail
        refine HB1.out.mono ?_
        rintro e w8 ⟨rfl, rfl⟩
        go_wp2_with fail
        refine HB2.out.mono ?_
        rintro e w9 ⟨rfl, rfl⟩
        go_wp2_with fail
        refine (trNew_any 4 w9 (by decide)).mono ?_
        rintro e w3 ⟨x, s, rfl, ht, b1, hx⟩
        have S3 : Hid (Sc w w3 v0 v1 (.slice a ops.length c) (.pointer none) (.pointer none) (.pointer none) (.pointer none)) := SC.out.below b1
        have HT : Hid (Tr w3 x s 4 [] ∧ Below w9.heap.size w9 w3 ∧ ∀ k, s.own x k → w9.heap.size ≤ k) := ⟨ht, b1, hx⟩
        clear ht b1 hx
        have a := S3.out.b0.c
        obtain ⟨a0, a1, -⟩ := a
        go_wp2_with fail
        refine (rNew_any 4 w3 (by decide)).mono ?_
        rintro e w4 ⟨rfl, hrf, b2⟩
        have HPn : Hid (Pp w w4 x s w3.heap.size (.slice none 0 0) 4 []) := pair_new HSz.out HT.out.2.1 HT.out.1 HT.out.2.2 hrf b2
        have S4 : Hid (Sc w w4 v0 v1 (.slice a ops.length c) (.pointer none) (.pointer none) (.pointer none) (.pointer none)) := S3.out.below b2
        have HSz4 : Hid (w.heap.size + 3 ≤ w4.heap.size) := by have h9 := HSz.out; have h8 := HT.out.2.1.size; have h7 := b2.size; show _ ≤ _; omega
        clear hrf b2 a0 a1
        have a0 := S4.out.b1.c0
        have a1 := S4.out.b1.f0
        have a2 := ((S4.out.set1 0 (.pointer (some ⟨x, 0, none⟩)) (by decide))).b2.c0
        have a3 := ((S4.out.set1 0 (.pointer (some ⟨x, 0, none⟩)) (by decide))).b2.f0
        have HFn : Hid (StK w v0 v1 (.slice a ops.length c) 1 ((w4.setCell ⟨w.heap.size + 1, 0, none⟩ (.pointer (some ⟨x, 0, none⟩))).setCell ⟨w.heap.size + 1 + 1, 0, none⟩ (.pointer (some ⟨w3.heap.size, 0, none⟩)))) := by
          have q1 := (S4.out.set1 0 (.pointer (some ⟨x, 0, none⟩)) (by decide)).set2 0 (.pointer (some ⟨w3.heap.size, 0, none⟩)) (by decide)
          have q2 := (HPn.out.set ⟨w.heap.size + 1, 0, none⟩ (.pointer (some ⟨x, 0, none⟩)) (by show w.heap.size + 1 < w.heap.size + 3; omega)).set ⟨w.heap.size + 1 + 1, 0, none⟩ (.pointer (some ⟨w3.heap.size, 0, none⟩)) (by show w.heap.size + 1 + 1 < w.heap.size + 3; omega)
          refine ⟨by simp only [World.setCell, Array.size_modify]; exact HSz4.out, .inr (.inl ⟨rfl, x, s, _, _, _, q1, q2⟩)⟩
        go_wp2
        go_roundg (gk - 1)
        case measure => omega
        case rel => exact ⟨1, by omega, by go_num, HFn.out⟩
    · have SC : Hid (Sc w wr v0 v1 (.slice a ops.length c) (.pointer (some ⟨x0, 0, none⟩)) (.pointer none) (.pointer (some ⟨y0, 0, none⟩)) (.pointer none)) := sc
      have P0 : Hid (Pp w wr x0 s0 y0 u0 n0 []) := pp
      clear sc pp HS0
      obtain ⟨e0, e1, -⟩ := SC.out.b0.c
      by_cases hv : 0 ≤ v1 ∧ v1 ≤ 1048576
      · go_wp2_with fail
        refine (trNew_any v1 wr hv).mono ?_
        rintro e w3 ⟨x, s, rfl, ht, b1, hx⟩
        have S3 : Hid (Sc w w3 v0 v1 (.slice a ops.length c) (.pointer (some ⟨x0, 0, none⟩)) (.pointer none) (.pointer (some ⟨y0, 0, none⟩)) (.pointer none)) := SC.out.below b1
        have P03 : Hid (Pp w w3 x0 s0 y0 u0 n0 []) := P0.out.below b1
        have HT : Hid (Tr w3 x s v1.toNat [] ∧ Below wr.heap.size wr w3 ∧ ∀ k, s.own x k → wr.heap.size ≤ k) := ⟨ht, b1, hx⟩
        clear ht b1 hx
        have a := S3.out.b0.c
        obtain ⟨a0, a1, -⟩ := a
        go_wp2_with fail
        refine (rNew_any v1 w3 hv).mono ?_
        rintro e w4 ⟨rfl, hrf, b2⟩
        have HPn : Hid (Pp w w4 x s w3.heap.size (.slice none 0 0) v1.toNat []) := pair_new HSz.out HT.out.2.1 HT.out.1 HT.out.2.2 hrf b2
        have S4 : Hid (Sc w w4 v0 v1 (.slice a ops.length c) (.pointer (some ⟨x0, 0, none⟩)) (.pointer none) (.pointer (some ⟨y0, 0, none⟩)) (.pointer none)) := S3.out.below b2
        have HSz4 : Hid (w.heap.size + 3 ≤ w4.heap.size) := by have h9 := HSz.out; have h8 := HT.out.2.1.size; have h7 := b2.size; show _ ≤ _; omega
        have P04 : Hid (Pp w w4 x0 s0 y0 u0 n0 []) := P03.out.below b2
        have HDj : Hid (∀ k, prP x0 s0 y0 u0 k → ¬ prP x s w3.heap.size (.slice none 0 0) k) := by
          have hlt := P0.out.p.lt
          have hxx := HT.out.2.2
          have hsz9 := HT.out.2.1.size
          rintro k h1 (h2 | h2 | h2)
          · have h3 := hlt k h1
            have h4 := hxx k h2
            omega
          · have := hlt k h1; omega
          · simp [Value.ownBlock] at h2
        clear hrf b2 a0 a1
        have a0 := S4.out.b1.c1
        have a1 := S4.out.b1.f1
        have a2 := ((S4.out.set1 1 (.pointer (some ⟨x, 0, none⟩)) (by decide))).b2.c1
        have a3 := ((S4.out.set1 1 (.pointer (some ⟨x, 0, none⟩)) (by decide))).b2.f1
        have HFn : Hid (StK w v0 v1 (.slice a ops.length c) 2 ((w4.setCell ⟨w.heap.size + 1, 1, none⟩ (.pointer (some ⟨x, 0, none⟩))).setCell ⟨w.heap.size + 1 + 1, 1, none⟩ (.pointer (some ⟨w3.heap.size, 0, none⟩)))) := by
          have q1 := (S4.out.set1 1 (.pointer (some ⟨x, 0, none⟩)) (by decide)).set2 1 (.pointer (some ⟨w3.heap.size, 0, none⟩)) (by decide)
          have q2 := (HPn.out.set ⟨w.heap.size + 1, 1, none⟩ (.pointer (some ⟨x, 0, none⟩)) (by show w.heap.size + 1 < w.heap.size + 3; omega)).set ⟨w.heap.size + 1 + 1, 1, none⟩ (.pointer (some ⟨w3.heap.size, 0, none⟩)) (by show w.heap.size + 1 + 1 < w.heap.size + 3; omega)
          refine ⟨by simp only [World.setCell, Array.size_modify]; exact HSz4.out, .inr (.inr ⟨rfl, x0, s0, y0, u0, n0, x, s, _, _, _, q1, (P04.out.set ⟨w.heap.size + 1, 1, none⟩ (.pointer (some ⟨x, 0, none⟩)) (by show w.heap.size + 1 < w.heap.size + 3; omega)).set ⟨w.heap.size + 1 + 1, 1, none⟩ (.pointer (some ⟨w3.heap.size, 0, none⟩)) (by show w.heap.size + 1 + 1 < w.heap.size + 3; omega), q2, HDj.out⟩)⟩
        go_wp2
        go_roundg (gk - 1)
        case measure => omega
        case rel => exact ⟨2, by omega, by go_num, HFn.out⟩
      · have HB1 : Hid (Calls Try.prog 9 #[.int .i64 v1] wr fun e w' => e = .returned (.tuple #[.pointer none, .int .i64 2]) ∧ w' = wr) := trNew_bad v1 wr hv
        have HB2 : Hid (Calls Try.prog 10 #[.int .i64 v1] wr fun e w' => e = .returned (.tuple #[.pointer none, .int .i64 2]) ∧ w' = wr) := rNew_bad v1 wr hv
        clear hv
        go_wp2_with fail
        refine HB1.out.mono ?_
        rintro e w8 ⟨rfl, rfl⟩
        go_wp2_with fail
        refine HB2.out.mono ?_
        rintro e w9 ⟨rfl, rfl⟩
        go_wp2_with fail
        refine (trNew_any 4 w9 (by decide)).mono ?_
        rintro e w3 ⟨x, s, rfl, ht, b1, hx⟩
        have S3 : Hid (Sc w w3 v0 v1 (.slice a ops.length c) (.pointer (some ⟨x0, 0, none⟩)) (.pointer none) (.pointer (some ⟨y0, 0, none⟩)) (.pointer none)) := SC.out.below b1
        have P03 : Hid (Pp w w3 x0 s0 y0 u0 n0 []) := P0.out.below b1
        have HT : Hid (Tr w3 x s 4 [] ∧ Below w9.heap.size w9 w3 ∧ ∀ k, s.own x k → w9.heap.size ≤ k) := ⟨ht, b1, hx⟩
        clear ht b1 hx
        have a := S3.out.b0.c
        obtain ⟨a0, a1, -⟩ := a
        go_wp2_with fail
        refine (rNew_any 4 w3 (by decide)).mono ?_
        rintro e w4 ⟨rfl, hrf, b2⟩
        have HPn : Hid (Pp w w4 x s w3.heap.size (.slice none 0 0) 4 []) := pair_new HSz.out HT.out.2.1 HT.out.1 HT.out.2.2 hrf b2
        have S4 : Hid (Sc w w4 v0 v1 (.slice a ops.length c) (.pointer (some ⟨x0, 0, none⟩)) (.pointer none) (.pointer (some ⟨y0, 0, none⟩)) (.pointer none)) := S3.out.below b2
        have HSz4 : Hid (w.heap.size + 3 ≤ w4.heap.size) := by have h9 := HSz.out; have h8 := HT.out.2.1.size; have h7 := b2.size; show _ ≤ _; omega
        have P04 : Hid (Pp w w4 x0 s0 y0 u0 n0 []) := P03.out.below b2
        have HDj : Hid (∀ k, prP x0 s0 y0 u0 k → ¬ prP x s w3.heap.size (.slice none 0 0) k) := by
          have hlt := P0.out.p.lt
          have hxx := HT.out.2.2
          have hsz9 := HT.out.2.1.size
          rintro k h1 (h2 | h2 | h2)
          · have h3 := hlt k h1
            have h4 := hxx k h2
            omega
          · have := hlt k h1; omega
          · simp [Value.ownBlock] at h2
        clear hrf b2 a0 a1
        have a0 := S4.out.b1.c1
        have a1 := S4.out.b1.f1
        have a2 := ((S4.out.set1 1 (.pointer (some ⟨x, 0, none⟩)) (by decide))).b2.c1
        have a3 := ((S4.out.set1 1 (.pointer (some ⟨x, 0, none⟩)) (by decide))).b2.f1
        have HFn : Hid (StK w v0 v1 (.slice a ops.length c) 2 ((w4.setCell ⟨w.heap.size + 1, 1, none⟩ (.pointer (some ⟨x, 0, none⟩))).setCell ⟨w.heap.size + 1 + 1, 1, none⟩ (.pointer (some ⟨w3.heap.size, 0, none⟩)))) := by
          have q1 := (S4.out.set1 1 (.pointer (some ⟨x, 0, none⟩)) (by decide)).set2 1 (.pointer (some ⟨w3.heap.size, 0, none⟩)) (by decide)
          have q2 := (HPn.out.set ⟨w.heap.size + 1, 1, none⟩ (.pointer (some ⟨x, 0, none⟩)) (by show w.heap.size + 1 < w.heap.size + 3; omega)).set ⟨w.heap.size + 1 + 1, 1, none⟩ (.pointer (some ⟨w3.heap.size, 0, none⟩)) (by show w.heap.size + 1 + 1 < w.heap.size + 3; omega)
          refine ⟨by simp only [World.setCell, Array.size_modify]; exact HSz4.out, .inr (.inr ⟨rfl, x0, s0, y0, u0, n0, x, s, _, _, _, q1, (P04.out.set ⟨w.heap.size + 1, 1, none⟩ (.pointer (some ⟨x, 0, none⟩)) (by show w.heap.size + 1 < w.heap.size + 3; omega)).set ⟨w.heap.size + 1 + 1, 1, none⟩ (.pointer (some ⟨w3.heap.size, 0, none⟩)) (by show w.heap.size + 1 + 1 < w.heap.size + 3; omega), q2, HDj.out⟩)⟩
        go_wp2
        go_roundg (gk - 1)
        case measure => omega
        case rel => exact ⟨2, by omega, by go_num, HFn.out⟩
    · have SC0 : Hid (Sc w wr v0 v1 (.slice a ops.length c) (.pointer (some ⟨x0, 0, none⟩)) (.pointer (some ⟨x1, 0, none⟩)) (.pointer (some ⟨y0, 0, none⟩)) (.pointer (some ⟨y1, 0, none⟩))) := sc
      have HI0 : Hid (Pp w wr x0 s0 y0 u0 n0 [] ∧ Pp w wr x1 s1 y1 u1 n1 [] ∧ ∀ k, prP x0 s0 y0 u0 k → ¬ prP x1 s1 y1 u1 k) := ⟨pp, pp', hdj⟩
      clear sc pp pp' hdj HS0 hk
      have e2 := SC0.out.b0.c.2.2
      go_wp2
      clear e2
      go_loopg [10] ops.length (fun g v10 wq => ∃ (i : Nat) (t0 : Sl) (z0 : Value) (S0 : List Pl) (t1 : Sl) (z1 : Value) (S1 : List Pl), i + g = ops.length ∧ v10 = .int .i64 i ∧ Sc w wq v0 v1 (.slice a ops.length c) (.pointer (some ⟨x0, 0, none⟩)) (.pointer (some ⟨x1, 0, none⟩)) (.pointer (some ⟨y0, 0, none⟩)) (.pointer (some ⟨y1, 0, none⟩)) ∧ Pp w wq x0 t0 y0 z0 n0 S0 ∧ Pp w wq x1 t1 y1 z1 n1 S1 ∧ ∀ k, prP x0 t0 y0 z0 k → ¬ prP x1 t1 y1 z1 k)
      case atStart => exact ⟨0, s0, u0, [], s1, u1, [], by omega, rfl, SC0.out, HI0.out.1, HI0.out.2.1, HI0.out.2.2⟩
      case round =>
        obtain ⟨i, t0, z0, S0, t1, z1, S1, hi, rfl, sc, q0, q1, hdj⟩ := hrel
        have HI : Hid (i + gk = ops.length) := hi
        have SC : Hid (Sc w wr v0 v1 (.slice a ops.length c) (.pointer (some ⟨x0, 0, none⟩)) (.pointer (some ⟨x1, 0, none⟩)) (.pointer (some ⟨y0, 0, none⟩)) (.pointer (some ⟨y1, 0, none⟩))) := sc
        have Q0 : Hid (Pp w wr x0 t0 y0 z0 n0 S0) := q0
        have Q1 : Hid (Pp w wr x1 t1 y1 z1 n1 S1) := q1
        have HDj : Hid (∀ k, prP x0 t0 y0 z0 k → ¬ prP x1 t1 y1 z1 k) := hdj
        clear sc q0 q1 hdj SC0 HI0
        have e2 := SC.out.b0.c.2.2
        by_cases hlt : i < ops.length
        · obtain ⟨bo, off, uo, rfl, hbo, d0, d1, d2, d3, d4, hrc⟩ := HOp.out wr i hlt SC.out.bel
          have HRc : Hid (Rd wr uo ops[i].c) := hrc
          have hp := pkZ_range ops[i].on (show (0 : Int) < 2 by decide)
          obtain ⟨ua, uc, rfl, -⟩ := rd_at hrc
          clear hi hrc
          generalize ops[i].c = oc at *
          generalize ops[i].kind = ok at *
          generalize ops[i].n = on at *
          generalize ops[i].m = om at *
          generalize ops[i].on = oo at *
          generalize hoc : oc.length = ol at *
          clear hoc
          generalize huo : Value.slice ua ol uc = uo at *
          go_wp2_with fail
          refine (pick_any _ 2 wr (by decide) (by decide)).mono ?_
          rintro e w3 ⟨rfl, rfl⟩
          generalize pkZ oo 2 = p at *
          rcases (show p = 0 ∨ p = 1 by omega) with rfl | rfl
          · have HStp : Hid (∀ W, Below w3.heap.size w3 W → Calls Try.prog 12 #[.pointer (some ⟨x0, 0, none⟩), .pointer (some ⟨y0, 0, none⟩), .agg #[.int .i64 oo, .int .i64 ok, .int .i64 on, .int .i64 om, uo]] W (StP W x0 t0 y0 z0 n0)) := fun W hW => step_any x0 t0 y0 z0 n0 S0 oo ok on om uo oc W (Q0.out.p.below hW) (HRc.out.below hW)
            have g1 := SC.out.b1.c0
            have g2 := SC.out.b2.c0
            go_upto_region 21 with fail
            go_region_law (go_simp; go_at_call 12; refine (HStp.out _ (Below.refl _ _).drew).mono ?_; intro e w9 hh; obtain ⟨he, s', u', R', hp, hm⟩ := hh; rw [he]; clear he; have F9 : Hid (Sc w w9 v0 v1 (.slice (some ⟨bo, off, none⟩) ops.length c) (.pointer (some ⟨x0, 0, none⟩)) (.pointer (some ⟨x1, 0, none⟩)) (.pointer (some ⟨y0, 0, none⟩)) (.pointer (some ⟨y1, 0, none⟩)) ∧ Pp w w9 x0 s' y0 u' n0 R' ∧ Pp w w9 x1 t1 y1 z1 n1 S1 ∧ ∀ k, prP x0 s' y0 u' k → ¬ prP x1 t1 y1 z1 k) := by { exact ⟨(SC.out.below (Below.refl _ _).drew).mg hm Q0.out.new, ⟨hp, fun k hk => by
                        rcases hm.new k hk with h3 | h3
                        · exact Q0.out.new k h3
                        · have h4 := SC.out.b2.lt
                          have h5 : w3.heap.size ≤ k := h3
                          omega⟩, ⟨(Q1.out.below (Below.refl _ _).drew).p.kept fun k hk => hm.block k ((Q1.out.below (Below.refl _ _).drew).p.lt k hk) (fun h1 => HDj.out k h1 hk), Q1.out.new⟩, fun k h1 h2 => by
                        rcases hm.new k h1 with h3 | h3
                        · exact HDj.out k h3 h2
                        · have := (Q1.out.p.below (Below.refl _ _).drew).lt k h2; omega⟩ }; clear hp hm; dsimp only)
            all_goals
              go_wp2
              go_roundg (gk - 1)
              case measure => have := HI.out; omega
              case rel => exact ⟨i + 1, s', u', R', t1, z1, S1, by have := HI.out; omega, by go_num, F9.out.1, F9.out.2.1, F9.out.2.2.1, F9.out.2.2.2⟩
          · have HStp : Hid (∀ W, Below w3.heap.size w3 W → Calls Try.prog 12 #[.pointer (some ⟨x1, 0, none⟩), .pointer (some ⟨y1, 0, none⟩), .agg #[.int .i64 oo, .int .i64 ok, .int .i64 on, .int .i64 om, uo]] W (StP W x1 t1 y1 z1 n1)) := fun W hW => step_any x1 t1 y1 z1 n1 S1 oo ok on om uo oc W (Q1.out.p.below hW) (HRc.out.below hW)
            have g1 := SC.out.b1.c1
            have g2 := SC.out.b2.c1
            go_upto_region 21 with fail
            go_region_law (go_simp; go_at_call 12; refine (HStp.out _ (Below.refl _ _).drew).mono ?_; intro e w9 hh; obtain ⟨he, s', u', R', hp, hm⟩ := hh; rw [he]; clear he; have F9 : Hid (Sc w w9 v0 v1 (.slice (some ⟨bo, off, none⟩) ops.length c) (.pointer (some ⟨x0, 0, none⟩)) (.pointer (some ⟨x1, 0, none⟩)) (.pointer (some ⟨y0, 0, none⟩)) (.pointer (some ⟨y1, 0, none⟩)) ∧ Pp w w9 x0 t0 y0 z0 n0 S0 ∧ Pp w w9 x1 s' y1 u' n1 R' ∧ ∀ k, prP x0 t0 y0 z0 k → ¬ prP x1 s' y1 u' k) := by { exact ⟨(SC.out.below (Below.refl _ _).drew).mg hm Q1.out.new, ⟨(Q0.out.below (Below.refl _ _).drew).p.kept fun k hk => hm.block k ((Q0.out.below (Below.refl _ _).drew).p.lt k hk) (fun h1 => HDj.out k hk h1), Q0.out.new⟩, ⟨hp, fun k hk => by
                        rcases hm.new k hk with h3 | h3
                        · exact Q1.out.new k h3
                        · have h4 := SC.out.b2.lt
                          have h5 : w3.heap.size ≤ k := h3
                          omega⟩, fun k h1 h2 => by
                        rcases hm.new k h2 with h3 | h3
                        · exact HDj.out k h1 h3
                        · have := (Q0.out.p.below (Below.refl _ _).drew).lt k h1; omega⟩ }; clear hp hm; dsimp only)
            all_goals
              go_wp2
              go_roundg (gk - 1)
              case measure => have := HI.out; omega
              case rel => exact ⟨i + 1, t0, z0, S0, s', u', R', by have := HI.out; omega, by go_num, F9.out.1, F9.out.2.1, F9.out.2.2.1, F9.out.2.2.2⟩
        · obtain rfl : i = ops.length := by omega
          clear hi HI
          have g0 := SC.out.b1.c0
          have g1 := SC.out.b2.c0
          go_wp2_with fail
          refine (whole_any x0 t0 y0 z0 n0 S0 wr Q0.out.p).mono ?_
          rintro e w5 ⟨rfl, bel5⟩
          have SC5 : Hid (Sc w w5 v0 v1 (.slice a ops.length c) (.pointer (some ⟨x0, 0, none⟩)) (.pointer (some ⟨x1, 0, none⟩)) (.pointer (some ⟨y0, 0, none⟩)) (.pointer (some ⟨y1, 0, none⟩))) := SC.out.below bel5
          have Q5 : Hid (Pp w w5 x1 t1 y1 z1 n1 S1) := Q1.out.below bel5
          clear bel5 g0 g1
          have g0 := SC5.out.b1.c1
          have g1 := SC5.out.b2.c1
          go_wp2_with fail
          refine (whole_any x1 t1 y1 z1 n1 S1 w5 Q5.out.p).mono ?_
          rintro e w6 ⟨rfl, bel6⟩
          have HW : Hid (Below w.heap.size w w6) := Below.step SC5.out.bel bel6
          clear bel6
          go_wp2
          go_ret
          exact ⟨rfl, HW.out⟩
end Go.Proofs.Ytjcgfigbbbefcaa
