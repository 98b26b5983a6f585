/-
  dimacs.WriteAnswer's closure put, walked.
  KEEP: grown below mono set on app nil text own rd rds new kept form lt trans refl rdb tens rdz len cut push whole start row
-/
import Derived.Test.YtpebpnbikdahkaaDoorRWr
set_option linter.unusedSimpArgs false
set_option linter.unusedVariables false
namespace Go.Proofs.YtpebpnbikdahkaaDoor
open Go Go.RowKit Go.Lib Go.Sort

/-- a box of one cell -/
def B1 (W : World) (D : Nat) (v : Value) : Prop := ∃ t, W.heap[D]? = some (.cells #[v] t (0, 0))
theorem B1.c {W : World} {D : Nat} {v : Value} (h : B1 W D v) : W.cell? ⟨D, 0, none⟩ = some v := by obtain ⟨t, h⟩ := h; simp [World.cell?, h]
theorem B1.f {W : World} {D : Nat} {v : Value} (h : B1 W D v) : W.frozen? ⟨D, 0, none⟩ = false := by obtain ⟨t, h⟩ := h; simp [World.frozen?, h]
theorem B1.lt {W : World} {D : Nat} {v : Value} (h : B1 W D v) : D < W.heap.size := by obtain ⟨t, h⟩ := h; exact (Array.getElem?_eq_some_iff.1 h).1
theorem B1.new (W : World) (t : TypeId) (v : Value) : B1 (W.alloc (.cells #[v] t)) W.heap.size v := ⟨t, heap_alloc_new W _⟩
theorem B1.kept {W W' : World} {row : Option Nat} {D : Nat} {v : Value} (h : B1 W D v) (hg : W.grownBy W' row) (hne : some D ≠ row) : B1 W' D v := by
  have hl := h.lt
  obtain ⟨t, h⟩ := h; exact ⟨t, (hg.block D hl hne).trans h⟩
theorem B1.below {W W' : World} {D : Nat} {v : Value} (h : B1 W D v) (hb : RowKit.Below W.heap.size W W') : B1 W' D v := h.kept (grown_below hb) (by simp)
theorem B1.set {W : World} {D : Nat} {v : Value} (h : B1 W D v) (u : Value) : B1 (W.setCell ⟨D, 0, none⟩ u) D u := by
  obtain ⟨t, h⟩ := h
  refine ⟨t, ?_⟩
  rw [Joins.block_setCell h]; rfl
theorem cell_one_at (W : World) (n : Nat) (hn : n = W.heap.size) (x : Value) (t : TypeId) : ∀ (j : Nat) u, [x][j]? = some u → (W.alloc (.cells #[x] t)).cell? ((⟨n, 0, none⟩ : Addr).add j) = some u := by subst hn; exact cell_one_new _ _ _
/-- a text in a box at O, where its line begins at P -/
structure Sb (lo B O P : Nat) (W0 W : World) (v : Value) (T : List UInt8) (b : Int) : Prop where
  o : B1 W O v
  p : B1 W P (.int .i64 b)
  t : OwnT B W v T
  ne : O ≠ P
  oB : O < B
  pB : P < B
  lO : lo ≤ O
  lP : lo ≤ P
  bs : B ≤ W.heap.size
  bel : RowKit.Below lo W0 W
theorem Sb.on {lo B O P : Nat} {W0 W W' : World} {v : Value} {T : List UInt8} {b : Int} (h : Sb lo B O P W0 W v T b) (hb : RowKit.Below W.heap.size W W') : Sb lo B O P W0 W' v T b :=
  ⟨h.o.below hb, h.p.below hb, World.ownsRow.kept h.t (grown_below hb) (one_or _), h.ne, h.oB, h.pB, h.lO, h.lP, Nat.le_trans h.bs hb.size, h.bel.trans (hb.mono (by have := h.lO; have := h.oB; have := h.bs; omega))⟩
/-- behind an append, ahead of the store and behind it -/
theorem Sb.app {lo B O P : Nat} {W0 W Wa w1 : World} {v v' : Value} {T D : List UInt8} {b : Int} (h : Sb lo B O P W0 W v T b) (hb : RowKit.Below W.heap.size W Wa) (own' : OwnT B w1 v' (T ++ D)) (hg : Wa.grownBy w1 v.ownBlock) :
    w1.cell? ⟨O, 0, none⟩ = some v ∧ w1.frozen? ⟨O, 0, none⟩ = false ∧ Sb lo B O P W0 (w1.setCell ⟨O, 0, none⟩ v') v' (T ++ D) b := by
  have h1 := h.on hb
  have no : some O ≠ v.ownBlock := fun e => by have := (World.ownsRow.lt h1.t O e.symm).1; have := h.oB; omega
  have np : some P ≠ v.ownBlock := fun e => by have := (World.ownsRow.lt h1.t P e.symm).1; have := h.pB; omega
  have o1 := h1.o.kept hg no
  have p1 := h1.p.kept hg np
  refine ⟨o1.c, o1.f, ⟨o1.set v', p1.kept (grown_set w1 ⟨O, 0, none⟩ v') (by intro e; exact h.ne (Option.some.inj e).symm), ownsRow_setCell_below own' (a := ⟨O, 0, none⟩) h.oB v', h.ne, h.oB, h.pB, h.lO, h.lP, ?_, ?_⟩⟩
  · rw [World.size_setCell]; have := h1.bs; have := hg.size; omega
  · exact (h1.bel.grown hg (by have := h.lO; have := h.oB; have := h1.bs; omega) (fun k hk => by have := (World.ownsRow.lt h1.t k hk).1; have := h.oB; have := h.lO; omega)).setCell (p := ⟨O, 0, none⟩) h.lO v'
theorem Sb.setP {lo B O P : Nat} {W0 W : World} {v : Value} {T : List UInt8} {b : Int} (h : Sb lo B O P W0 W v T b) (b' : Int) : Sb lo B O P W0 (W.setCell ⟨P, 0, none⟩ (.int .i64 b')) v T b' :=
  ⟨h.o.kept (grown_set W ⟨P, 0, none⟩ _) (by intro e; exact h.ne (Option.some.inj e)), h.p.set _, ownsRow_setCell_below h.t (a := ⟨P, 0, none⟩) h.pB _, h.ne, h.oB, h.pB, h.lO, h.lP, by rw [World.size_setCell]; exact h.bs, h.bel.setCell (p := ⟨P, 0, none⟩) h.lP _⟩
theorem ownt_form {B : Nat} {w : World} {v : Value} {T : List UInt8} (h : OwnT B w v T) : ∃ a c, v = .slice a T.length c := by
  rcases h.2 with ⟨hv, hn⟩ | ⟨g, cap, cur, hv, _⟩
  · exact ⟨none, 0, by rw [hv, hn]⟩
  · exact ⟨_, _, hv⟩

theorem Sb.app1 {lo B O P : Nat} {W0 W w1 : World} {v v' : Value} {T : List UInt8} {b : Int} {c : UInt8} {o : Obj} (h : Sb lo B O P W0 W v T b) (own' : w1.ownsRow B 5 1 v' (T.length + 1) (Lib.byteCells T ++ [.int .u8 c.toNat])) (hg : (W.alloc o).grownBy w1 v.ownBlock) :
    ∃ T3 a3 c3, T3 = T ++ [c] ∧ T3.length = T.length + 1 ∧ v' = .slice a3 T3.length c3 ∧ w1.cell? ⟨O, 0, none⟩ = some v ∧ w1.frozen? ⟨O, 0, none⟩ = false ∧ Sb lo B O P W0 (w1.setCell ⟨O, 0, none⟩ v') v' T3 b := by
  have own3 : OwnT B w1 v' (T ++ [c]) := OwnT.one own'
  obtain ⟨a3, c3, e⟩ := ownt_form own3
  obtain ⟨q0, q1, q2⟩ := h.app (RowKit.Below.alloc (RowKit.Below.refl _ _) (Nat.le_refl _) _) own3 hg
  exact ⟨T ++ [c], a3, c3, rfl, by simp, e, q0, q1, q2⟩
theorem Sb.apps {lo B O P : Nat} {W0 W w1 : World} {v v' : Value} {T d : List UInt8} {b : Int} (h : Sb lo B O P W0 W v T b) (own' : w1.ownsRow B 5 1 v' (T.length + (⟨d.toArray⟩ : ByteArray).size) (Lib.byteCells T ++ strCells ⟨d.toArray⟩)) (hg : W.grownBy w1 v.ownBlock) :
    ∃ T3 a3 c3, T3 = T ++ d ∧ T3.length = T.length + d.length ∧ v' = .slice a3 T3.length c3 ∧ w1.cell? ⟨O, 0, none⟩ = some v ∧ w1.frozen? ⟨O, 0, none⟩ = false ∧ Sb lo B O P W0 (w1.setCell ⟨O, 0, none⟩ v') v' T3 b := by
  have own3 : OwnT B w1 v' (T ++ d) := OwnT.more (by rw [← strCells_bytes d]; simpa [ByteArray.size] using own')
  obtain ⟨a3, c3, e⟩ := ownt_form own3
  obtain ⟨q0, q1, q2⟩ := h.app (RowKit.Below.refl _ _) own3 hg
  exact ⟨T ++ d, a3, c3, rfl, by simp, e, q0, q1, q2⟩

set_option maxHeartbeats 3200000 in
set_option maxRecDepth 100000 in
theorem put_any (lo B O P : Nat) (W0 W : World) (v : Value) (st : List UInt8 × List UInt8) (z : Int) (h0 : -9223372036854775808 ≤ z) (h1 : z ≤ 9223372036854775807) (hS : Sb lo B O P W0 W v (st.1 ++ st.2) st.1.length) (hl1 : st.1.length + st.2.length ≤ 1099511627776) (hT : TensY W) :
    Calls Tryd.prog 8 #[.int .i64 z, .pointer (some ⟨O, 0, none⟩), .pointer (some ⟨P, 0, none⟩)] W fun e W' => (∃ x, e = .returned x) ∧ ∃ v', Sb lo B O P W0 W' v' ((putN st z).1 ++ (putN st z).2) (putN st z).1.length := by
  have hil := Lib.itoa_length_le z (by omega) (by omega)
  obtain ⟨d, hd⟩ : ∃ d, d = Lib.itoa z := ⟨_, rfl⟩
  have HI : Hid (Calls Tryd.prog 9 #[.int .i64 z] W fun e w' => e = .returned (.string ⟨d.toArray⟩) ∧ RowKit.Below W.heap.size W w') := by rw [hd]; exact itoa_any z h0 h1 W hT
  rw [← hd] at hil
  have HP : Hid (putN st z = putW st d) := by show _ = _; rw [hd]; rfl
  have HS : Hid (Sb lo B O P W0 W v (st.1 ++ st.2) st.1.length) := hS
  obtain ⟨i0, hi, hz0, hz1, hz2⟩ := info_parts infoY
  obtain ⟨av, cv, rfl⟩ := ownt_form hS.t
  have hne := hS.ne
  have hne' : P ≠ O := fun e => hne e.symm
  have hlen : (st.1 ++ st.2).length = st.1.length + st.2.length := List.length_append
  clear hS hd hT h0 h1
  obtain ⟨s1, s2⟩ := st
  simp only at *
  have HLn : Hid ((s1 ++ s2).length = s1.length + s2.length) := hlen
  have hTl : (s1 ++ s2).length ≤ 1099511627776 := by omega
  cases hq : decide (78 < s2.length + 1 + d.length)
  · have HPW : Hid (putN (s1, s2) z = (s1, s2 ++ [32] ++ d)) := by
      show _ = _
      rw [HP.out]; unfold putW; rw [if_neg (of_decide_eq_false hq)]
    have hc : decide ((78 : Int) < ((s1 ++ s2).length : Int) - (s1.length : Int) + 1 + (d.length : Int)) = false := by
      have := of_decide_eq_false hq
      exact decide_eq_false (by have := HLn.out; omega)
    clear hlen
    generalize hTT : s1 ++ s2 = T at *
    have HTT : Hid (T = s1 ++ s2) := hTT.symm
    clear hTT
    go_enter Tryd.func8, Tryd.ntmps8
    go_wp2_with fail
    refine HI.out.mono ?_
    rintro e w2 ⟨rfl, bel2⟩
    have S2 : Hid (Sb lo B O P W0 w2 (.slice av T.length cv) T s1.length) := HS.out.on bel2
    have c0 := S2.out.o.c
    have c1 := S2.out.p.c
    have f0 := S2.out.o.f
    have hbs := S2.out.bs
    clear HI bel2 HS
    go_wp2_with (first | (at_builtin; refine wpList_append_own _ rfl _ _ 30 rfl B 5 i0 (.int .u8 0) 1 1 Tryd.underlying30 hi hz0 hz1 hz2 rfl (by decide) _ _ _ rfl (World.ownsRow.alloc S2.out.t _) _ 1 1 [.int .u8 32] rfl rfl (cell_one_at _ _ (by simp) _ _) (by simp [Value.oneCell']) (by unfold maxLen; omega) (by omega) (by simp; omega) ?_; intro v3 w3 own3 gr3 hn3; obtain ⟨T3, a3, c3, hT3, l3, rfl, q30, q31, q32⟩ := S2.out.app1 (c := 32) own3 gr3; have HT3 : Hid (T3 = T ++ [32]) := hT3; have L3 : Hid (T3.length = T.length + 1) := l3; have b3 : T3.length ≤ T.length + 1 := Nat.le_of_eq l3; have S3 : Hid (Sb lo B O P W0 (w3.setCell ⟨O, 0, none⟩ (.slice a3 T3.length c3)) (.slice a3 T3.length c3) T3 _) := q32; have s3 := S3.out.bs; have x3 := S3.out.o.c; have y3 := S3.out.o.f; have k3 := S3.out.p.c; have f3 := S3.out.p.f; clear q32 own3 gr3 hn3 hT3 l3) | (at_builtin; refine Lib.wpList_append_own_string _ rfl _ _ 30 9 rfl B 5 i0 Tryd.underlying30 Tryd.underlying9 hi hz0 hz1 hz2 _ _ _ rfl S3.out.t ⟨(d : List UInt8).toArray⟩ rfl (by unfold maxLen; simp [ByteArray.size]; omega) (by simp [ByteArray.size]; omega) (by first | assumption | omega) ?_; intro v4 w4 own4 gr4 hn4; obtain ⟨T4, a4, c4, hT4, l4, rfl, q40, q41, q42⟩ := S3.out.apps (d := d) own4 gr4; have HT4 : Hid (T4 = T3 ++ d) := hT4; have L4 : Hid (T4.length = T3.length + (d : List UInt8).length) := l4; have b4 : T4.length ≤ T3.length + 21 := (by rw [l4]; first | omega | (simp; done) | (simp; omega)); have S4 : Hid (Sb lo B O P W0 (w4.setCell ⟨O, 0, none⟩ (.slice a4 T4.length c4)) (.slice a4 T4.length c4) T4 _) := q42; have s4 := S4.out.bs; have x4 := S4.out.o.c; have y4 := S4.out.o.f; have k4 := S4.out.p.c; have f4 := S4.out.p.f; clear q42 own4 gr4 hn4 hT4 l4))
    go_end0
    refine ⟨⟨_, rfl⟩, .slice a4 T4.length c4, ?_⟩
    rw [HPW.out]
    have hT : s1 ++ (s2 ++ [32] ++ d) = T4 := by rw [HT4.out, HT3.out, HTT.out]; simp
    show Sb lo B O P W0 _ _ (s1 ++ (s2 ++ [32] ++ d)) _
    rw [hT]
    exact S4.out
  · have HPW : Hid (putN (s1, s2) z = (s1 ++ s2 ++ [10], [118] ++ [32] ++ d)) := by
      show _ = _
      rw [HP.out]; unfold putW; rw [if_pos (of_decide_eq_true hq)]
    have hc : decide ((78 : Int) < ((s1 ++ s2).length : Int) - (s1.length : Int) + 1 + (d.length : Int)) = true := by
      have := of_decide_eq_true hq
      exact decide_eq_true (by have := HLn.out; omega)
    clear hlen
    generalize hTT : s1 ++ s2 = T at *
    have HTT : Hid (T = s1 ++ s2) := hTT.symm
    clear hTT
    go_enter Tryd.func8, Tryd.ntmps8
    go_wp2_with fail
    refine HI.out.mono ?_
    rintro e w2 ⟨rfl, bel2⟩
    have S2 : Hid (Sb lo B O P W0 w2 (.slice av T.length cv) T s1.length) := HS.out.on bel2
    have c0 := S2.out.o.c
    have c1 := S2.out.p.c
    have f0 := S2.out.o.f
    have hbs := S2.out.bs
    clear HI bel2 HS
    go_wp2_with (first | (at_builtin; refine wpList_append_own _ rfl _ _ 30 rfl B 5 i0 (.int .u8 0) 1 1 Tryd.underlying30 hi hz0 hz1 hz2 rfl (by decide) _ _ _ rfl (World.ownsRow.alloc S2.out.t _) _ 1 1 [.int .u8 10] rfl rfl (cell_one_at _ _ (by simp) _ _) (by simp [Value.oneCell']) (by unfold maxLen; omega) (by omega) (by simp; omega) ?_; intro v3 w3 own3 gr3 hn3; obtain ⟨T3, a3, c3, hT3, l3, rfl, q30, q31, q32⟩ := S2.out.app1 (c := 10) own3 gr3; have HT3 : Hid (T3 = T ++ [10]) := hT3; have L3 : Hid (T3.length = T.length + 1) := l3; have b3 : T3.length ≤ T.length + 1 := Nat.le_of_eq l3; have S3 : Hid (Sb lo B O P W0 (w3.setCell ⟨O, 0, none⟩ (.slice a3 T3.length c3)) (.slice a3 T3.length c3) T3 _) := q32; have s3 := S3.out.bs; have x3 := S3.out.o.c; have y3 := S3.out.o.f; have k3 := S3.out.p.c; have f3 := S3.out.p.f; clear q32 own3 gr3 hn3 hT3 l3; have S3p : Hid (Sb lo B O P W0 ((w3.setCell ⟨O, 0, none⟩ (.slice a3 T3.length c3)).setCell ⟨P, 0, none⟩ (.int .i64 (T3.length : Int))) (.slice a3 T3.length c3) T3 (T3.length : Int)) := S3.out.setP _; have x3p := S3p.out.o.c; have y3p := S3p.out.o.f) | (at_builtin; refine Lib.wpList_append_own_string _ rfl _ _ 30 9 rfl B 5 i0 Tryd.underlying30 Tryd.underlying9 hi hz0 hz1 hz2 _ _ _ rfl S3p.out.t ⟨([118] : List UInt8).toArray⟩ rfl (by unfold maxLen; simp [ByteArray.size]; omega) (by simp [ByteArray.size]; omega) (by first | assumption | exact S3p.out.bs | omega) ?_; intro v4 w4 own4 gr4 hn4; obtain ⟨T4, a4, c4, hT4, l4, rfl, q40, q41, q42⟩ := S3p.out.apps (d := [118]) own4 gr4; have HT4 : Hid (T4 = T3 ++ [118]) := hT4; have L4 : Hid (T4.length = T3.length + ([118] : List UInt8).length) := l4; have b4 : T4.length ≤ T3.length + 21 := (by rw [l4]; first | omega | (simp; done) | (simp; omega)); have S4 : Hid (Sb lo B O P W0 (w4.setCell ⟨O, 0, none⟩ (.slice a4 T4.length c4)) (.slice a4 T4.length c4) T4 _) := q42; have s4 := S4.out.bs; have x4 := S4.out.o.c; have y4 := S4.out.o.f; have k4 := S4.out.p.c; have f4 := S4.out.p.f; clear q42 own4 gr4 hn4 hT4 l4; refine Hid.out ?_))
    refine Lib.hid ?_
    go_wp2_with (first | (at_builtin; refine wpList_append_own _ rfl _ _ 30 rfl B 5 i0 (.int .u8 0) 1 1 Tryd.underlying30 hi hz0 hz1 hz2 rfl (by decide) _ _ _ rfl (World.ownsRow.alloc S4.out.t _) _ 1 1 [.int .u8 32] rfl rfl (cell_one_at _ _ (by simp) _ _) (by simp [Value.oneCell']) (by unfold maxLen; omega) (by omega) (by have h := S4.out.bs; simp at h ⊢; omega) ?_; intro v5 w5 own5 gr5 hn5; obtain ⟨T5, a5, c5, hT5, l5, rfl, q50, q51, q52⟩ := S4.out.app1 (c := 32) own5 gr5; have HT5 : Hid (T5 = T4 ++ [32]) := hT5; have L5 : Hid (T5.length = T4.length + 1) := l5; have b5 : T5.length ≤ T4.length + 1 := Nat.le_of_eq l5; have S5 : Hid (Sb lo B O P W0 (w5.setCell ⟨O, 0, none⟩ (.slice a5 T5.length c5)) (.slice a5 T5.length c5) T5 _) := q52; have s5 := S5.out.bs; have x5 := S5.out.o.c; have y5 := S5.out.o.f; have k5 := S5.out.p.c; have f5 := S5.out.p.f; clear q52 own5 gr5 hn5 hT5 l5) | (at_builtin; refine Lib.wpList_append_own_string _ rfl _ _ 30 9 rfl B 5 i0 Tryd.underlying30 Tryd.underlying9 hi hz0 hz1 hz2 _ _ _ rfl S5.out.t ⟨(d : List UInt8).toArray⟩ rfl (by unfold maxLen; simp [ByteArray.size]; omega) (by simp [ByteArray.size]; omega) (by first | assumption | exact S5.out.bs | omega) ?_; intro v6 w6 own6 gr6 hn6; obtain ⟨T6, a6, c6, hT6, l6, rfl, q60, q61, q62⟩ := S5.out.apps (d := d) own6 gr6; have HT6 : Hid (T6 = T5 ++ d) := hT6; have L6 : Hid (T6.length = T5.length + (d : List UInt8).length) := l6; have b6 : T6.length ≤ T5.length + 21 := (by rw [l6]; first | omega | (simp; done) | (simp; omega)); have S6 : Hid (Sb lo B O P W0 (w6.setCell ⟨O, 0, none⟩ (.slice a6 T6.length c6)) (.slice a6 T6.length c6) T6 _) := q62; have s6 := S6.out.bs; have x6 := S6.out.o.c; have y6 := S6.out.o.f; have k6 := S6.out.p.c; have f6 := S6.out.p.f; clear q62 own6 gr6 hn6 hT6 l6))
    go_end0
    refine ⟨⟨_, rfl⟩, .slice a6 T6.length c6, ?_⟩
    rw [HPW.out]
    have hT : (T ++ [10]) ++ ([118] ++ [32] ++ d) = T6 := by rw [HT6.out, HT5.out, HT4.out, HT3.out]; simp
    show Sb lo B O P W0 _ _ ((T ++ [10]) ++ ([118] ++ [32] ++ d)) _
    rw [hT, ← HT3.out]
    exact S6.out

end Go.Proofs.YtpebpnbikdahkaaDoor
