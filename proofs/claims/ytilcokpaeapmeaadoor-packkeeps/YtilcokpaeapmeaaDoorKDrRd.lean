/-
  drat.Read, walked.
  KEEP: box own below mono lt set kept new trans refl app on grown cell out block size os tape output c f c0 c1 row ap rdz nil
-/
import Derived.Test.YtilcokpaeapmeaaDoorJDrR
import Derived.Test.YtilcokpaeapmeaaDoorKDrWd
set_option linter.unusedSimpArgs false
set_option linter.unusedVariables false
namespace Go.Proofs.YtilcokpaeapmeaaDoor
open Go Go.RowKit Go.Lib Go.Sort

/-! what the tokens are like -/
theorem scan_len : ∀ (s : List UInt8) (k : Nat) (cur : List UInt8) (beg rem : Bool), (scan s k cur beg rem).length ≤ s.length + 1
  | [], k, cur, beg, rem => by rw [scan, one9]; split <;> simp
  | b :: r, k, cur, beg, rem => by
    have h1 : (one9 rem cur k).length ≤ 1 := by rw [one9]; split <;> simp
    have i1 := scan_len r k cur false true
    have i2 := scan_len r (k + 1) [] true false
    have i3 := scan_len r k [] false rem
    have i4 := scan_len r k (cur ++ [b]) false rem
    rw [scan]
    simp only [List.length_cons]
    split
    · split
      · omega
      · simp
    · split
      · omega
      · split
        · rw [List.length_append]; omega
        · split
          · rw [List.length_append]; omega
          · omega
theorem scan_line : ∀ (s : List UInt8) (k : Nat) (cur : List UInt8) (beg rem : Bool), ∀ t ∈ scan s k cur beg rem, k ≤ t.2
  | [], k, cur, beg, rem, t, h => by
    rw [scan, one9] at h
    split at h
    · have : t = (some cur, k) := by simpa using h
      rw [this]; exact Nat.le_refl _
    · cases h
  | b :: r, k, cur, beg, rem, t, h => by
    have h1 : ∀ t ∈ one9 rem cur k, k ≤ t.2 := fun t h => by
      rw [one9] at h
      split at h
      · have : t = (some cur, k) := by simpa using h
        rw [this]; exact Nat.le_refl _
      · cases h
    rw [scan] at h
    split at h
    · split at h
      · exact scan_line r k cur false true t h
      · have : t = (none, k) := by simpa using h
        rw [this]; exact Nat.le_refl _
    · split at h
      · exact scan_line r k cur false true t h
      · split at h
        · rcases List.mem_append.1 h with h | h
          · exact h1 t h
          · have := scan_line r (k + 1) [] true false t h; omega
        · split at h
          · rcases List.mem_append.1 h with h | h
            · exact h1 t h
            · exact scan_line r k [] false rem t h
          · exact scan_line r k (cur ++ [b]) false rem t h
theorem endL_ge : ∀ (s : List UInt8) (k : Nat) (beg : Bool), k ≤ endL s k beg
  | [], k, beg => by rw [endL]; split <;> omega
  | b :: r, k, beg => by
    rw [endL]
    split
    · have := endL_ge r (k + 1) true; omega
    · exact endL_ge r k false
theorem eat_line : ∀ (ts : List Tok) (st : RSt) (j : Nat), (eatD ts st).2.1 = some j → ∃ t ∈ ts, t.2 = j
  | [], st, j, h => by cases h
  | (none, k) :: r, st, j, h => ⟨_, List.mem_cons_self .., by simpa [eatD] using h⟩
  | (some w, k) :: r, st, j, h => by
    rw [eatD] at h
    split at h
    · exact ⟨_, List.mem_cons_self .., by simpa using h⟩
    · obtain ⟨t, h1, h2⟩ := eat_line r _ j h
      exact ⟨t, List.mem_cons_of_mem _ h1, h2⟩
theorem par_line {s : List UInt8} {j : Nat} (h : (eatD (scan s 1 [] true false) st0).2.1 = some j) : 1 ≤ j := by
  obtain ⟨t, h1, h2⟩ := eat_line _ _ _ h
  have := scan_line _ _ _ _ _ t h1; omega
theorem takeW_len {st st' : RSt} {w : List UInt8} {g : List Stp} (h : takeW st w = some (st', g)) : st'.cl.length ≤ st.cl.length + 1 ∧ g.length ≤ 1 ∧ ∀ x ∈ g, x = (st.dr, st.cl) ∧ st' = st0 := by
  unfold takeW at h
  split at h
  · injection h with h; injection h with h1 h2; subst h1; subst h2
    exact ⟨Nat.le_succ _, by simp, fun x hx => by cases hx⟩
  · split at h
    · cases h
    · split at h
      · injection h with h; injection h with h1 h2; subst h1; subst h2
        exact ⟨by simp, by simp, fun x hx => ⟨by simpa using hx, rfl⟩⟩
      · injection h with h; injection h with h1 h2; subst h1; subst h2
        exact ⟨by simp, by simp, fun x hx => by cases hx⟩

/-- the box of the steps that are collected -/
def Bx1 (W : World) (A : Nat) (u : Value) : Prop := W.heap[A]? = some (.cells #[u] 22 (0, 0))
theorem Bx1.lt {W : World} {A : Nat} {u : Value} (h : Bx1 W A u) : A < W.heap.size := (Array.getElem?_eq_some_iff.1 h).1
theorem Bx1.c {W : World} {A : Nat} {u : Value} (h : Bx1 W A u) : W.cell? ⟨A, 0, none⟩ = some u ∧ W.frozen? ⟨A, 0, none⟩ = false := by simp [World.cell?, World.frozen?, show W.heap[A]? = _ from h]
theorem Bx1.set {W : World} {A : Nat} {u : Value} (h : Bx1 W A u) (y : Value) : Bx1 (W.setCell ⟨A, 0, none⟩ y) A y := by
  obtain ⟨hlt, hk⟩ := Array.getElem?_eq_some_iff.1 h
  show (W.heap.modify A _)[A]? = _
  rw [Array.getElem?_eq_getElem (by rw [Array.size_modify]; exact hlt), Array.getElem_modify_self, hk]; rfl
theorem Bx1.new (W : World) (u : Value) : Bx1 (W.alloc (.cells #[u] 22)) W.heap.size u := World.alloc_heap_new W _
theorem ownZ_keep {B : Nat} {W W' : World} {u : Value} {L : List SV} (h : OwnZ B W u L) (hu : ∀ k, some k = u.ownBlock → W'.heap[k]? = W.heap[k]?) (hL : ∀ x ∈ L, ∀ k, some k = x.2.1.ownBlock → W'.heap[k]? = W.heap[k]?) : OwnZ B W' u L := by
  refine ⟨⟨h.row.1, ?_⟩, fun x hx => own_keep9 (h.own x hx) (hL x hx), h.ap⟩
  rcases h.row.2 with hn | ⟨g, cap, cur, hv, hg, hh, r⟩
  · exact .inl hn
  · exact .inr ⟨g, cap, cur, hv, hg, (hu g (by rw [hv]; rfl)).trans hh, r⟩
theorem row_type {B : Nat} {W : World} {v : Value} {n : Nat} {xs : List Value} {e s : Nat} (h : W.ownsRow B e s v n xs) {k : Nat} (hk : some k = v.ownBlock) : ∃ cur, W.heap[k]? = some (.cells cur e (0, 0)) := by
  rcases h.2 with ⟨rfl, _⟩ | ⟨g, cap, cur, rfl, _, hh, _⟩
  · simp [Value.ownBlock] at hk
  · obtain rfl : k = g := by simpa [Value.ownBlock] using hk
    exact ⟨cur, hh⟩

theorem row_form2 {B : Nat} {W : World} {v : Value} {n : Nat} {xs : List Value} {e s : Nat} (h : W.ownsRow B e s v n xs) : ∃ a c, v = .slice a n c := by
  rcases h.2 with ⟨rfl, hn⟩ | ⟨g, cap, cur, rfl, _⟩
  · exact ⟨none, 0, by rw [hn]⟩
  · exact ⟨_, cap, rfl⟩
abbrev gvF (A : Nat) : Value := .func (.func 39) #[] #[.pointer (some ⟨A, 0, none⟩)]

set_option maxRecDepth 100000 in
set_option maxHeartbeats 3200000 in
/-- Read's function: a step more in the box -/
theorem read1_any (B A : Nat) (W : World) (u v : Value) (L : List SV) (d : Bool) (z : List Int) (hA : Bx1 W A u) (hO : OwnZ B W u L) (hB : B ≤ W.heap.size) (hAB : A < B) (hv : Own B W v z) (hap : ApartC ((L ++ [(d, v, z)]).map Prod.snd)) (hl : L.length ≤ 1099511627777) :
    Calls Tryd.prog 39 #[.agg #[.bool d, v], .pointer (some ⟨A, 0, none⟩)] W fun e W' => e = .returned (.bool true) ∧ ∃ u', Bx1 W' A u' ∧ OwnZ B W' u' (L ++ [(d, v, z)]) ∧ W.heap.size ≤ W'.heap.size ∧ W'.os = W.os ∧ W'.tape = W.tape ∧ W'.output = W.output ∧ ∀ k, k < W.heap.size → k ≠ A → some k ≠ u.ownBlock → W'.heap[k]? = W.heap[k]? := by
  obtain ⟨av, cv, rfl⟩ := own_form hv
  obtain ⟨au, cu, hu⟩ : ∃ a c, u = .slice a L.length c := by
    rcases hO.row.2 with ⟨rfl, hn⟩ | ⟨g, cap, cur, rfl, _⟩
    · exact ⟨none, 0, by rw [hn]⟩
    · exact ⟨_, cap, rfl⟩
  subst hu
  obtain ⟨il, hil, hzl0, hzl1, hzl2⟩ := info_parts infoZ
  have hlt := hA.lt
  have HA : Hid (Bx1 W A (.slice au L.length cu)) := hA
  have HO : Hid (OwnZ B W (.slice au L.length cu) L) := hO
  have HV : Hid (Own B W (.slice av z.length cv) z) := hv
  have HAP : Hid (ApartC ((L ++ [(d, Value.slice av z.length cv, z)]).map Prod.snd)) := hap
  have hA1 : Bx1 (W.alloc (.cells #[.bool d, .slice av z.length cv] 61)) A (.slice au L.length cu) := (Below.heap_alloc _ _ _ hlt).trans hA
  obtain ⟨c0, f0⟩ := hA1.c
  have HNw := cell_two_new9 (W.alloc (.cells #[.bool d, .slice av z.length cv] 61)) (.bool d) (.slice av z.length cv) 61
  rw [World.size_alloc] at HNw
  have HNw' : Hid (∀ j u, [Value.bool d, Value.slice av z.length cv][j]? = some u → ((W.alloc (.cells #[.bool d, .slice av z.length cv] 61)).alloc (.cells #[.bool d, .slice av z.length cv] 61)).cell? ((⟨W.heap.size + 1, 0, none⟩ : Addr).add j) = some u) := HNw
  have HRw : Hid (((W.alloc (.cells #[.bool d, .slice av z.length cv] 61)).alloc (.cells #[.bool d, .slice av z.length cv] 61)).ownsRow B 61 2 (.slice au L.length cu) L.length (svC L)) := World.ownsRow.alloc (World.ownsRow.alloc hO.row _) _
  have HFin : Hid (∀ a7 c7 w7, w7.ownsRow B 61 2 (.slice a7 (L.length + 1) c7) (L.length + 1) (svC L ++ [.bool d, .slice av z.length cv]) → ((W.alloc (.cells #[.bool d, .slice av z.length cv] 61)).alloc (.cells #[.bool d, .slice av z.length cv] 61)).grownBy w7 (Value.slice au L.length cu).ownBlock →
      Bx1 w7 A (.slice au L.length cu) ∧ OwnZ B (w7.setCell ⟨A, 0, none⟩ (.slice a7 (L.length + 1) c7)) (.slice a7 (L.length + 1) c7) (L ++ [(d, .slice av z.length cv, z)]) ∧ W.heap.size ≤ (w7.setCell ⟨A, 0, none⟩ (.slice a7 (L.length + 1) c7)).heap.size ∧ w7.os = W.os ∧ w7.tape = W.tape ∧ w7.output = W.output ∧ ∀ k, k < W.heap.size → k ≠ A → some k ≠ (Value.slice au L.length cu).ownBlock → (w7.setCell ⟨A, 0, none⟩ (.slice a7 (L.length + 1) c7)).heap[k]? = W.heap[k]?) := fun a7 c7 w7 own7 gr7 => by
    have hgrow : W.grownBy ((W.alloc (.cells #[.bool d, .slice av z.length cv] 61)).alloc (.cells #[.bool d, .slice av z.length cv] 61)) none := grown_below (Below.step (below_box _ _) (below_box _ _))
    have hz7 := HO.out.app hgrow own7 gr7 HV.out HAP.out
    have hAu : some A ≠ (Value.slice au L.length cu).ownBlock := fun e => by have := (HO.out.row.lt A e.symm).1; omega
    have hb7 : Bx1 w7 A (.slice au L.length cu) := (gr7.block A (by simp; omega) hAu).trans ((hgrow.block A hlt (by simp)).trans HA.out)
    refine ⟨hb7, ownZ_keep hz7 (fun k hk => Below.heap_setCell _ ⟨A, 0, none⟩ _ k (fun e => ?_)) (fun x hx k hk => Below.heap_setCell _ ⟨A, 0, none⟩ _ k (fun e => ?_)), by rw [World.size_setCell]; have := gr7.size; simp at this; omega, gr7.os, gr7.tape, gr7.output, fun k hk h1 h2 => ?_⟩
    · have := (hz7.row.lt k hk.symm).1; have e' : k = A := e; omega
    · have := ((hz7.own x hx).lt k hk.symm).1; have e' : k = A := e; omega
    · rw [Below.heap_setCell _ ⟨A, 0, none⟩ _ k h1, gr7.block k (by simp; omega) h2, hgrow.block k hk (by simp)]
  clear hA hO hv hap hA1 HNw
  go_enter Tryd.func39, Tryd.ntmps39
  go_wp2_with (at_builtin; refine wpList_append_own _ rfl _ _ 22 rfl B 61 il (.agg #[.bool false, .slice none 0 0]) 2 32 Tryd.underlying22 hil hzl0 hzl1 hzl2 rfl (by decide) _ L.length (svC L) rfl HRw.out _ 1 1 [.bool d, .slice av z.length cv] rfl rfl HNw'.out (by simp [Value.oneCell']) (by unfold maxLen; omega) (by omega) (by simp; omega) ?_; intro v7 w7 own7 gr7 hn7; obtain ⟨a7, c7, hv7⟩ := row_form2 own7; subst hv7; have F7 := HFin.out a7 c7 w7 own7 gr7; have p0 := F7.1.c.1; have q0 := F7.1.c.2)
  go_ret
  exact ⟨rfl, _, F7.1.set _, F7.2.1, F7.2.2.1, F7.2.2.2.1, F7.2.2.2.2.1, F7.2.2.2.2.2.1, F7.2.2.2.2.2.2⟩

/-- between two words: the reader, the steps so far, and what is left -/
structure RdS9 (w0 : World) (M : Nat) (FS : List Stp) (FR : Option Nat × RSt) (ts : List Tok) (W : World) (st : RSt) (cv u : Value) (L : List SV) : Prop where
  rx : Rx (w0.heap.size + 3) (w0.heap.size + 1) (gvF w0.heap.size) W st cv
  box : Bx1 W w0.heap.size u
  all : OwnZ (w0.heap.size + 3) W u L
  bel : Below w0.heap.size w0 W
  dis : ∀ x ∈ L, ∀ k, some k = x.2.1.ownBlock → some k ≠ cv.ownBlock
  fs : svS L ++ (eatD ts st).1 = FS
  fr : (eatD ts st).2 = FR
  m1 : st.cl.length + ts.length ≤ M
  m2 : L.length + ts.length ≤ M
  m3 : ∀ x ∈ L, x.2.2.length ≤ M
  sz : w0.heap.size + 3 ≤ W.heap.size
def RdI9 (w0 : World) (M : Nat) (FS : List Stp) (FR : Option Nat × RSt) (ts : List Tok) (W : World) : Prop := ∃ st cv u L, RdS9 w0 M FS FR ts W st cv u L
theorem RdS9.keep {w0 : World} {M : Nat} {FS : List Stp} {FR : Option Nat × RSt} {ts : List Tok} {W W' : World} {st : RSt} {cv u : Value} {L : List SV} (h : RdS9 w0 M FS FR ts W st cv u L)
    (hk : ∀ k, k < W.heap.size → k ≠ w0.heap.size + 2 → W'.heap[k]? = W.heap[k]?) (hs : W.heap.size ≤ W'.heap.size) (h1 : W'.os = W.os) (h2 : W'.tape = W.tape) (h3 : W'.output = W.output) : RdS9 w0 M FS FR ts W' st cv u L := by
  have hsz := h.sz
  refine ⟨h.rx.kept (hk _ (by omega) (by omega)) (fun k e => ?_), (hk _ (by omega) (by omega)).trans h.box, ownZ_keep h.all (fun k e => ?_) (fun x hx k e => ?_), ⟨h1.trans h.bel.os, h2.trans h.bel.tape, h3.trans h.bel.output, Nat.le_trans h.bel.size hs, fun k e => (hk k (by omega) (by omega)).trans (h.bel.block k e)⟩, h.dis, h.fs, h.fr, h.m1, h.m2, h.m3, by omega⟩
  · have := h.rx.own.lt k e.symm; exact hk k this.2 (by omega)
  · have := h.all.row.lt k e.symm; exact hk k this.2 (by omega)
  · have := (h.all.own x hx).lt k e.symm; exact hk k this.2 (by omega)

set_option maxHeartbeats 1600000 in
theorem take9 (w0 : World) (s : ByteArray) (M : Nat) (FS : List Stp) (FR : Option Nat × RSt) (hM : M ≤ 1099511627777) (he : Env w0) (wd : List UInt8) (k : Nat) (ts : List Tok) (A : World) (p : Nat) (hI : RdI9 w0 M FS FR ((some wd, k) :: ts) A) (hw : wd.length ≤ 1099511627776) (hit : A.heap[w0.heap.size + 2]? = some (.stringIter s p)) :
    Calls Tryd.prog 53 #[.pointer (some ⟨w0.heap.size + 1, 0, none⟩), .string ⟨wd.toArray⟩] A fun e B => (e = .returned (.bool true) ∧ RdI9 w0 M FS FR ts B ∧ B.heap[w0.heap.size + 2]? = some (.stringIter s p)) ∨ (e = .returned (.bool false) ∧ FR.1 = some k ∧ Below w0.heap.size w0 B) := by
  obtain ⟨st, cv, u, L, h⟩ := hI
  have hsz := h.sz
  have hm1 := h.m1
  have hm2 := h.m2
  simp only [List.length_cons] at hm1 hm2
  have hbi : ∀ q : Nat, some q = cv.ownBlock → q ≠ w0.heap.size + 2 := fun q hq => by have := (h.rx.own.lt q hq.symm).1; omega
  -- what the reader's own blocks are not
  have hqA : ¬ rdQ (w0.heap.size + 1) cv w0.heap.size := fun hq => by
    rcases hq with e | e
    · omega
    · have := (h.rx.own.lt _ e.symm).1; omega
  have hqB : ¬ rdQ (w0.heap.size + 1) cv (w0.heap.size + 2) := fun hq => by
    rcases hq with e | e
    · omega
    · exact hbi _ e rfl
  have hqu : ∀ q, some q = u.ownBlock → ¬ rdQ (w0.heap.size + 1) cv q := fun q hq hh => by
    rcases hh with e | e
    · have := (h.all.row.lt q hq.symm).1; omega
    · obtain ⟨c1, e1⟩ := row_type h.all.row hq
      obtain ⟨c2, e2⟩ := row_type h.rx.own e
      rw [e1] at e2; cases e2
  have hqL : ∀ x ∈ L, ∀ q, some q = x.2.1.ownBlock → ¬ rdQ (w0.heap.size + 1) cv q := fun x hx q hq hh => by
    rcases hh with e | e
    · have := ((h.all.own x hx).lt q hq.symm).1; omega
    · exact h.dis x hx q hq e
  have hqlow : ∀ q, rdQ (w0.heap.size + 1) cv q → w0.heap.size ≤ q := fun q hh => by
    rcases hh with e | e
    · omega
    · have := (h.rx.own.lt q e.symm).1; omega
  -- the steps so far, over what the reader does
  have carry : ∀ W' cv', Mq A (rdQ (w0.heap.size + 1) cv) W' (rdQ (w0.heap.size + 1) cv') → Bx1 W' w0.heap.size u ∧ OwnZ (w0.heap.size + 3) W' u L ∧ Below w0.heap.size w0 W' ∧ W'.heap[w0.heap.size + 2]? = some (.stringIter s p) ∧ w0.heap.size + 3 ≤ W'.heap.size := fun W' cv' hmq =>
    ⟨(hmq.block _ (by omega) hqA).trans h.box, ownZ_keep h.all (fun q hq => hmq.block q (h.all.row.lt q hq.symm).2 (hqu q hq)) (fun x hx q hq => hmq.block q ((h.all.own x hx).lt q hq.symm).2 (hqL x hx q hq)), hmq.low h.bel (by omega) hqlow, (hmq.block _ (by omega) hqB).trans hit, Nat.le_trans hsz hmq.size⟩
  have hEnv : Env A := he.below h.bel
  refine (takeF_any (w0.heap.size + 3) (w0.heap.size + 1) w0.heap.size A st.op st.dr st.cl cv wd h.rx hsz (by omega) hEnv (by omega) hw
    (fun b B => (b = true → RdI9 w0 M FS FR ts B ∧ B.heap[w0.heap.size + 2]? = some (.stringIter s p)) ∧ (b = false → FR.1 = some k ∧ Below w0.heap.size w0 B)) ?_ ?_ ?_).mono ?_
  · intro hn W' hb
    refine ⟨fun e => (by cases e), fun _ => ⟨?_, h.bel.trans (hb.mono (by omega))⟩⟩
    have hn' : takeW st wd = none := hn
    have := h.fr
    rw [eatD, hn'] at this
    rw [← this]
  · intro st' hn cv' W' hrx hmq
    have hn' : takeW st wd = some (st', []) := hn
    obtain ⟨k1, k2, k3⟩ := takeW_len hn'
    obtain ⟨q1, q2, q3, q4, q5⟩ := carry W' cv' hmq
    refine ⟨fun _ => ⟨⟨st', cv', u, L, hrx, q1, q2, q3, fun x hx q hq e => ?_, ?_, ?_, by omega, by omega, h.m3, q5⟩, q4⟩, fun e => by cases e⟩
    · rcases hmq.new q (.inr e) with h1 | h1
      · exact hqL x hx q hq h1
      · have := ((h.all.own x hx).lt q hq.symm).2; omega
    · have := h.fs
      rw [eat_one hn'] at this
      simpa using this
    · have := h.fr
      rw [eat_one hn'] at this
      exact this
  · intro st' x hn v cv' W' hrx hov hcvb hmq
    have hn' : takeW st wd = some (st', [x]) := hn
    obtain ⟨k1, k2, k3⟩ := takeW_len hn'
    obtain ⟨hx, hst⟩ := k3 x (List.mem_singleton.2 rfl)
    obtain ⟨q1, q2, q3, q4, q5⟩ := carry W' cv' hmq
    have hov' : Own (w0.heap.size + 3) W' v x.2 := hov.mono hsz
    have hap : ApartC ((L ++ [(x.1, v, x.2)]).map Prod.snd) := by
      rw [List.map_append]
      exact ApartC.snoc (W := A) h.all.ap (fun y hy => by obtain ⟨z, hz, rfl⟩ := List.mem_map.1 hy; exact h.all.own z hz) hov (Nat.le_refl _)
    refine (read1_any (w0.heap.size + 3) w0.heap.size W' u v L x.1 x.2 q1 q2 q5 (by omega) hov' hap (by omega)).mono ?_
    rintro e B ⟨rfl, u', b1, b2, b3, b4, b5, b6, b7⟩
    have hkeep : ∀ q, q < W'.heap.size → q ≠ w0.heap.size → some q ≠ u.ownBlock → B.heap[q]? = W'.heap[q]? := b7
    have hu2 : ∀ q, some q = u.ownBlock → w0.heap.size + 3 ≤ q := fun q hq => (q2.row.lt q hq.symm).1
    have hbD : B.heap[w0.heap.size + 1]? = W'.heap[w0.heap.size + 1]? := hkeep _ (by omega) (by omega) (fun e => by have := hu2 _ e; omega)
    refine ⟨true, rfl, ⟨fun _ => ⟨⟨st', cv', u', L ++ [(x.1, v, x.2)], ⟨hrx.box.kept hbD, own_keep9 hrx.own fun q hq => hkeep q (hrx.own.lt q hq.symm).2 (by have := (hrx.own.lt q hq.symm).1; omega) (fun e => ?_)⟩, b1, b2, ⟨b4.trans q3.os, b5.trans q3.tape, b6.trans q3.output, Nat.le_trans q3.size b3, fun q hq => (hkeep q (by omega) (by omega) (fun e => by have := hu2 _ e; omega)).trans (q3.block q hq)⟩, fun y hy q hq e => ?_, ?_, ?_, by omega, by simp; omega, fun y hy => ?_, by omega⟩, (hkeep _ (by omega) (by omega) (fun e => by have := hu2 _ e; omega)).trans q4⟩, fun e => by cases e⟩, World.cell?_of_block hbD⟩
    · obtain ⟨c1, e1⟩ := row_type hrx.own hq
      obtain ⟨c2, e2⟩ := row_type q2.row e
      rw [e1] at e2; cases e2
    · rcases List.mem_append.1 hy with hy | hy
      · rcases hmq.new q (.inr e) with h1 | h1
        · exact hqL y hy q hq h1
        · have := ((h.all.own y hy).lt q hq.symm).2; omega
      · obtain rfl : y = (x.1, v, x.2) := by simpa using hy
        have h2 := (hov.lt q hq.symm).1
        rw [hcvb] at e
        have := (h.rx.own.lt q e.symm).2
        omega
    · have := h.fs
      rw [eat_one hn'] at this
      rw [svS_snoc, List.append_assoc]; simpa using this
    · have := h.fr
      rw [eat_one hn'] at this
      exact this
    · rcases List.mem_append.1 hy with hy | hy
      · exact h.m3 y hy
      · obtain rfl : y = (x.1, v, x.2) := by simpa using hy
        rw [hx]; show st.cl.length ≤ M; omega
  · rintro e B ⟨b, rfl, h1, h2⟩
    cases b
    · exact .inr ⟨rfl, h2 rfl⟩
    · exact .inl ⟨rfl, h1 rfl⟩

end Go.Proofs.YtilcokpaeapmeaaDoor
