/-
  depotlaw04: plays, whatever the kind; two pairs, in turns.
  KEEP: set on app at below new trans refl start ap kept rd rds mono own row cells lt box lo ml ms c0 f0 form max find eq ma some none more map keep ps arStep docStep toldStep movedStep renote tys obj bel step swap mv c kill kst book
-/
import Derived.Test.YtnglgcipjbpgoaaAo1
import Derived.Test.YtnglgcipjbpgoaaArK3
set_option linter.unusedSimpArgs false
set_option linter.unusedVariables false
namespace Go.Proofs.Ytnglgcipjbpgoaa
open Go Go.RowKit Go.Maps

theorem plc_lits : ∀ (S : List Seg) (p : Int) (x : Mc), x ∈ plc p S → x.lits.length ≤ (flat S).length
  | s :: r, p, x, h => by
    rw [plc] at h
    rcases List.mem_cons.1 h with e | e
    · rw [e]; simp [flat]; omega
    · have := plc_lits r _ x e
      simp [flat]; omega
theorem Pl4.mono {F : Nat → Prop} {D b m : Nat} {S : List Seg} {L : List Mt} {T : List Te} {n n' : Nat} {w : World} {e : Ending} {w' : World} (h : Pl4 F D b m S L T n w e w') (hn : n ≤ n') : Pl4 F D b m S L T n' w e w' := by
  obtain ⟨F', v', S', rv', L', tv', mv', T', he, hp, hs, h1, h2, h3⟩ := h
  exact ⟨F', v', S', rv', L', tv', mv', T', he, hp, hs, by omega, h2, h3⟩
/-- an int -/
def Rng (x : Int) : Prop := -9223372036854775808 ≤ x ∧ x ≤ 9223372036854775807
theorem wf_rng {n : Int} (h : (Lit.int .i64 n).wf = true) : Rng n := by
  simp [Lit.wf, IntKind.min, IntKind.max, IntKind.bits, IntKind.signed] at h
  unfold Rng
  omega
theorem rd_two4 (w : World) (x y : Int) : Rd (w.alloc (.cells #[.int .i64 x, .int .i64 y] 3)) (.slice (some ⟨w.heap.size, 0, none⟩) 2 2) [x, y] := by
  have hh := World.alloc_heap_new w (.cells #[.int .i64 x, .int .i64 y] 3)
  refine ⟨by simp, some ⟨w.heap.size, 0, none⟩, 2, rfl, by simp, by unfold maxLen; omega, by simp, fun _ => ⟨w.heap.size, 0, rfl, by rw [World.size_alloc]; omega, fun j hj => ?_⟩⟩
  have : j < 2 := by simpa using hj
  match j, this with
  | 0, _ => rw [World.cell?_alloc_at _ _ _ _ rfl]; rfl
  | 1, _ => rw [World.cell?_alloc_at _ _ _ _ rfl]; rfl
theorem plays_any (F : Nat → Prop) (D b m : Nat) (v rv tv mv : Value) (S : List Seg) (L : List Mt) (T : List Te) (o : AOp) (u : Value) (w : World) (h : Pr4 F w D b v S m rv L tv mv T) (hl : (flat S).length ≤ 1099511627776) (hL : L.length ≤ 1099511627776) (hT : T.length ≤ 1099511627776) (hzl : o.lits.length ≤ 1099511627776)
    (hZ : ∀ (F' : Nat → Prop) W, Ps4 F F' w W → Rd W u o.lits) (hg : ∀ x ∈ o.lits, Rng x) (hr : Rng o.ref) :
    Calls Try.prog 7 #[.pointer (some ⟨D, 0, none⟩), .agg #[.int .i64 o.kind, .int .i64 o.which, .int .i64 o.ref, u, .bool o.learnt]] w fun e w' => Pl4 F D b m S L T (o.lits.length + 1) w e w' := by
  obtain ⟨kd, wh, r, zs, l⟩ := o
  have up : ∀ {e w'}, Pl4 F D b m S L T 0 w e w' → Pl4 F D b m S L T (zs.length + 1) w e w' := fun q => q.mono (Nat.zero_le _)
  show Calls Try.prog 7 #[.pointer (some ⟨D, 0, none⟩), .agg #[.int .i64 kd, .int .i64 wh, .int .i64 r, u, .bool l]] w fun e w' => Pl4 F D b m S L T (zs.length + 1) w e w'
  by_cases k1 : kd = 1
  · subst k1; exact plays1_any F D b m v rv tv mv S L T _ _ u zs l w h hl hL hzl hZ
  by_cases k2 : kd = 2
  · subst k2; exact (plays2_any F D b m v rv tv mv S L T r _ _ _ w h hl (fun x hx => by have := plc_lits S 0 x.2 (by rw [← h.mz.eq]; exact List.mem_map_of_mem hx); omega)).mono fun e w' q => up q
  by_cases k3 : kd = 3
  · subst k3; exact (plays3_any F D b m v rv tv mv S L T r _ _ _ w h hl).mono fun e w' q => up q
  by_cases k4 : kd = 4
  · subst k4; exact (plays4_any F D b m v rv tv mv S L T r _ _ _ w h hl).mono fun e w' q => up q
  by_cases k5 : kd = 5
  · subst k5; exact (plays5_any F D b m v rv tv mv S L T _ _ _ _ w h hl).mono fun e w' q => up q
  by_cases k6 : kd = 6
  · subst k6; exact (plays6_any F D b m v rv tv mv S L T _ _ _ _ w h hl hL hT).mono fun e w' q => up q
  by_cases k7 : kd = 7
  · subst k7; exact (plays7_any F D b m v rv tv mv S L T r zs _ _ _ w h (hZ F w (Ps4.of_below (Below.refl _ _))) (fun x hx => hg x hx) hr.2 hT).mono fun e w' q => up q
  · exact (plays0_any F D b m v rv tv mv S L T kd _ _ _ _ w h (by omega)).mono fun e w' q => up q
/-- two pairs -/
def Tw (w W : World) (D1 b1 m1 D2 b2 m2 N : Nat) : Prop :=
  ∃ (F1 : Nat → Prop) (v1 : Value) (S1 : List Seg) (rv1 : Value) (L1 : List Mt) (tv1 mv1 : Value) (T1 : List Te) (F2 : Nat → Prop) (v2 : Value) (S2 : List Seg) (rv2 : Value) (L2 : List Mt) (tv2 mv2 : Value) (T2 : List Te),
    Pr4 F1 W D1 b1 v1 S1 m1 rv1 L1 tv1 mv1 T1 ∧ Pr4 F2 W D2 b2 v2 S2 m2 rv2 L2 tv2 mv2 T2 ∧ (∀ k, F1 k → ¬ F2 k) ∧ (∀ k, F1 k → w.heap.size ≤ k) ∧ (∀ k, F2 k → w.heap.size ≤ k) ∧
    (flat S1).length ≤ N ∧ L1.length ≤ N ∧ T1.length ≤ N ∧ (flat S2).length ≤ N ∧ L2.length ≤ N ∧ T2.length ≤ N ∧ Below w.heap.size w W
theorem Tw.swap {w W : World} {D1 b1 m1 D2 b2 m2 N : Nat} (h : Tw w W D1 b1 m1 D2 b2 m2 N) : Tw w W D2 b2 m2 D1 b1 m1 N := by
  obtain ⟨F1, v1, S1, rv1, L1, tv1, mv1, T1, F2, v2, S2, rv2, L2, tv2, mv2, T2, p1, p2, hd, f1, f2, n1, n2, n3, n4, n5, n6, hb⟩ := h
  exact ⟨F2, v2, S2, rv2, L2, tv2, mv2, T2, F1, v1, S1, rv1, L1, tv1, mv1, T1, p2, p1, fun k q1 q2 => hd k q2 q1, f2, f1, n4, n5, n6, n1, n2, n3, hb⟩
theorem Tw.bel {w W : World} {D1 b1 m1 D2 b2 m2 N : Nat} (h : Tw w W D1 b1 m1 D2 b2 m2 N) : Below w.heap.size w W := by
  obtain ⟨F1, v1, S1, rv1, L1, tv1, mv1, T1, F2, v2, S2, rv2, L2, tv2, mv2, T2, p1, p2, hd, f1, f2, n1, n2, n3, n4, n5, n6, hb⟩ := h
  exact hb
theorem Tw.below {w W W' : World} {D1 b1 m1 D2 b2 m2 N : Nat} (h : Tw w W D1 b1 m1 D2 b2 m2 N) (hb : Below W.heap.size W W') : Tw w W' D1 b1 m1 D2 b2 m2 N := by
  obtain ⟨F1, v1, S1, rv1, L1, tv1, mv1, T1, F2, v2, S2, rv2, L2, tv2, mv2, T2, p1, p2, hd, f1, f2, n1, n2, n3, n4, n5, n6, hb1⟩ := h
  exact ⟨F1, v1, S1, rv1, L1, tv1, mv1, T1, F2, v2, S2, rv2, L2, tv2, mv2, T2, p1.below hb, p2.below hb, hd, f1, f2, n1, n2, n3, n4, n5, n6, Below.step hb1 hb⟩
theorem tw_go {w W W' : World} {D1 b1 m1 D2 b2 m2 N : Nat} (h : Tw w W D1 b1 m1 D2 b2 m2 N) (hWb : Below W.heap.size W W') (hN : N ≤ 1099511627776) (o : AOp) (u : Value) (hzl : o.lits.length ≤ 1099511627776) (hZ : ∀ (F F' : Nat → Prop) W'', (∀ k, F k → w.heap.size ≤ k ∧ k < W.heap.size) → Below w.heap.size w W' → Ps4 F F' W' W'' → Rd W'' u o.lits) (hg : ∀ x ∈ o.lits, Rng x) (hr : Rng o.ref) :
    Calls Try.prog 7 #[.pointer (some ⟨D1, 0, none⟩), .agg #[.int .i64 o.kind, .int .i64 o.which, .int .i64 o.ref, u, .bool o.learnt]] W' fun e w' => e = .returned (.bool true) ∧ Tw w w' D1 b1 m1 D2 b2 m2 (N + (o.lits.length + 1)) := by
  obtain ⟨F1, v1, S1, rv1, L1, tv1, mv1, T1, F2, v2, S2, rv2, L2, tv2, mv2, T2, p1, p2, hd, f1, f2, n1, n2, n3, n4, n5, n6, hb⟩ := h
  have p2' := p2.below hWb
  have hb' : Below w.heap.size w W' := Below.step hb hWb
  refine (plays_any F1 D1 b1 m1 v1 rv1 tv1 mv1 S1 L1 T1 o u W' (p1.below hWb) (by omega) (by omega) (by omega) hzl (fun F' W'' p => hZ F1 F' W'' (fun k hk => ⟨f1 k hk, p1.lt' k hk⟩) hb' p) hg hr).mono fun e w' q => ?_
  obtain ⟨F', v', S', rv', L', tv', mv', T', he, hp, hs, a1, a2, a3⟩ := q
  refine ⟨he, F', v', S', rv', L', tv', mv', T', F2, v2, S2, rv2, L2, tv2, mv2, T2, hp, p2'.keep hs.size (fun k hk => hs.block k (p2'.lt' k hk) (fun q => hd k q hk)), fun k q1 q2 => (hs.sub k q1).elim (fun q => hd k q q2) (fun q => ?_), fun k q => (hs.sub k q).elim (f1 k) (fun q => Nat.le_trans hb'.size q), f2, by omega, by omega, by omega, by omega, by omega, by omega, hs.bel hb' f1⟩
  have := p2'.lt' k q2
  omega
theorem tw_step {w W : World} {D1 b1 m1 D2 b2 m2 N : Nat} (h : Tw w W D1 b1 m1 D2 b2 m2 N) (hN : N ≤ 1099511627776) (o : AOp) (u : Value) (hzl : o.lits.length ≤ 1099511627776) (hz : Rd w u o.lits) (hg : ∀ x ∈ o.lits, Rng x) (hr : Rng o.ref) :
    Calls Try.prog 7 #[.pointer (some ⟨D1, 0, none⟩), .agg #[.int .i64 o.kind, .int .i64 o.which, .int .i64 o.ref, u, .bool o.learnt]] W fun e w' => e = .returned (.bool true) ∧ Tw w w' D1 b1 m1 D2 b2 m2 (N + (o.lits.length + 1)) :=
  tw_go h (Below.refl _ _) hN o u hzl (fun F F' W'' hF hb p => hz.below (p.bel hb (fun k hk => (hF k hk).1))) hg hr
theorem rd_kept4 {w w' : World} {v : Value} {zs : List Int} (h : Rd w v zs) (hs : w.heap.size ≤ w'.heap.size) (hk : ∀ k, v.ownBlock = some k → w'.heap[k]? = w.heap[k]?) : Rd w' v zs := by
  obtain ⟨h1, a, c, rfl, hc, hm, hn, h2⟩ := h
  refine ⟨h1, a, c, rfl, hc, hm, hn, fun hne => ?_⟩
  obtain ⟨b, off, rfl, hlt, hcell⟩ := h2 hne
  refine ⟨b, off, rfl, Nat.lt_of_lt_of_le hlt hs, fun j hj => ?_⟩
  rw [← hcell j hj]
  unfold World.cell?
  rw [hk b rfl]
/-- a step with a list of one's own -/
theorem tw_own {w W W' : World} {D1 b1 m1 D2 b2 m2 N : Nat} (h : Tw w W D1 b1 m1 D2 b2 m2 N) (hWb : Below W.heap.size W W') (hN : N ≤ 1099511627776) (o : AOp) (u : Value) (hzl : o.lits.length ≤ 1099511627776) (hu : Rd W' u o.lits) (hn : ∀ g, u.ownBlock = some g → W.heap.size ≤ g ∧ g < W'.heap.size) (hg : ∀ x ∈ o.lits, Rng x) (hr : Rng o.ref) :
    Calls Try.prog 7 #[.pointer (some ⟨D1, 0, none⟩), .agg #[.int .i64 o.kind, .int .i64 o.which, .int .i64 o.ref, u, .bool o.learnt]] W' fun e w' => e = .returned (.bool true) ∧ Tw w w' D1 b1 m1 D2 b2 m2 (N + (o.lits.length + 1)) :=
  tw_go h hWb hN o u hzl (fun F F' W'' hF hb p => rd_kept4 hu p.size (fun k hk => p.block k (hn k hk).2 (fun q => absurd (hF k q).2 (by have := (hn k hk).1; omega)))) hg hr
/-- a new pair of pairs -/
theorem Tw.new {w W : World} {D1 a1 m1 D2 a2 m2 : Nat} (h1 : W.heap[D1]? = some (.cells #[.pointer (some ⟨a1, 0, none⟩), .pointer (some ⟨m1, 0, none⟩), .slice none 0 0, .slice none 0 0] 28 (0, 0))) (h2 : W.heap[a1]? = some (.cells #[.slice none 0 0, .int .i64 0] 83 (0, 0))) (h3 : W.heap[m1]? = some (.cells #[.slice none 0 0] 62 (0, 0)))
    (k1 : W.heap[D2]? = some (.cells #[.pointer (some ⟨a2, 0, none⟩), .pointer (some ⟨m2, 0, none⟩), .slice none 0 0, .slice none 0 0] 28 (0, 0))) (k2 : W.heap[a2]? = some (.cells #[.slice none 0 0, .int .i64 0] 83 (0, 0))) (k3 : W.heap[m2]? = some (.cells #[.slice none 0 0] 62 (0, 0)))
    (e1 : D1 ≠ D2) (e2 : a1 ≠ a2) (e3 : m1 ≠ m2) (l1 : w.heap.size ≤ D1) (l2 : w.heap.size ≤ a1) (l3 : w.heap.size ≤ m1) (l4 : w.heap.size ≤ D2) (l5 : w.heap.size ≤ a2) (l6 : w.heap.size ≤ m2) (hb : Below w.heap.size w W) : Tw w W D1 a1 m1 D2 a2 m2 0 := by
  have t1 := tyB_cells h1
  have t2 := tyB_cells h2
  have t3 := tyB_cells h3
  have u1 := tyB_cells k1
  have u2 := tyB_cells k2
  have u3 := tyB_cells k3
  have x1 : D1 ≠ a2 := ne_ty t1 u2 (by decide)
  have x2 : D1 ≠ m2 := ne_ty t1 u3 (by decide)
  have x3 : a1 ≠ D2 := ne_ty t2 u1 (by decide)
  have x4 : a1 ≠ m2 := ne_ty t2 u3 (by decide)
  have x5 : m1 ≠ D2 := ne_ty t3 u1 (by decide)
  have x6 : m1 ≠ a2 := ne_ty t3 u2 (by decide)
  exact ⟨_, _, _, _, _, _, _, _, _, _, _, _, _, _, _, _, Pr4.new h1 h2 h3, Pr4.new k1 k2 k3, fun k q1 q2 => by omega, fun k q => by omega, fun k q => by omega, Nat.le_refl _, Nat.le_refl _, Nat.le_refl _, Nat.le_refl _, Nat.le_refl _, Nat.le_refl _, hb⟩
end Go.Proofs.Ytnglgcipjbpgoaa
