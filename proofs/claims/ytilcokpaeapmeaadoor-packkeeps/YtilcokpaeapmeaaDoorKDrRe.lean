/-
  drat.steps and drat.Read, walked.
  KEEP: box own below mono lt set kept new trans refl app on grown cell out block size os tape output c f c0 c1 row ap rdz nil rx all bel fs fr m1 m2 m3 sz keep
-/
import Derived.Test.YtilcokpaeapmeaaDoorKDrRd
import Derived.Laws.EntriesVeiled
set_option linter.unusedSimpArgs false
set_option linter.unusedVariables false
namespace Go.Proofs.YtilcokpaeapmeaaDoor
open Go Go.RowKit Go.Lib Go.Sort

def finD (l : List Stp) (E : Nat) : Option Nat × RSt → List Stp × Nat
  | (some k, _) => (l, k)
  | (none, st) => (l, if st.op then E else 0)
theorem par_fin (s : List UInt8) : parD s = finD (eatD (scan s 1 [] true false) st0).1 (endL s 1 true) (eatD (scan s 1 [] true false) st0).2 := by
  unfold parD
  rcases eatD (scan s 1 [] true false) st0 with ⟨a, b, c⟩
  cases b <;> rfl

set_option maxRecDepth 100000 in
set_option maxHeartbeats 3200000 in
theorem stepsF_any (s : ByteArray) (w0 : World) (hs : s.size ≤ 1099511627776) (he : Env w0) :
    Calls Tryd.prog 38 #[.string s, gvF w0.heap.size] (w0.alloc (.cells #[.slice none 0 0] 22)) fun e W' => e = .returned (.int .i64 ((parD s.data.toList).2 : Int)) ∧ Below w0.heap.size w0 W' ∧
      ((parD s.data.toList).2 = 0 → ∃ u L, Bx1 W' w0.heap.size u ∧ OwnZ (w0.heap.size + 3) W' u L ∧ svS L = (parD s.data.toList).1 ∧ L.length ≤ 1099511627777 ∧ ∀ x ∈ L, x.2.2.length ≤ 1099511627777) := by
  obtain ⟨FS, hFS⟩ : ∃ FS, FS = (eatD (scan s.data.toList 1 [] true false) st0).1 := ⟨_, rfl⟩
  obtain ⟨FR, hFR⟩ : ∃ FR, FR = (eatD (scan s.data.toList 1 [] true false) st0).2 := ⟨_, rfl⟩
  have hpar : parD s.data.toList = finD FS (endL s.data.toList 1 true) FR := by rw [hFS, hFR]; exact par_fin _
  have hpos : ∀ k, FR.1 = some k → 1 ≤ k := fun k hk => par_line (by rw [← hFR]; exact hk)
  obtain ⟨E, hE⟩ : ∃ E, E = endL s.data.toList 1 true := ⟨_, rfl⟩
  rw [← hE] at hpar
  have hE1 : 1 ≤ E := by rw [hE]; exact endL_ge _ _ _
  obtain ⟨P, hP⟩ : ∃ P, P = parD s.data.toList := ⟨_, rfl⟩
  rw [← hP] at hpar ⊢
  have HPar : Hid (P = finD FS E FR) := hpar
  have hlen : (scan s.data.toList 1 [] true false).length ≤ 1099511627777 := by
    have := scan_len s.data.toList 1 [] true false
    rw [size9] at this; omega
  -- the world where words is called
  obtain ⟨W2, hW2⟩ : ∃ W2, W2 = (w0.alloc (.cells #[.slice none 0 0] 22)).alloc (.cells #[gvF w0.heap.size, .bool false, .bool false, .slice none 0 0] 83) := ⟨_, rfl⟩
  have hsz2 : W2.heap.size = w0.heap.size + 2 := by rw [hW2]; simp
  have hI0 : RdI9 w0 1099511627777 FS FR (scan s.data.toList 1 [] true false) (W2.iter s 0) := by
    have b1 : Br4 W2 (w0.heap.size + 1) (gvF w0.heap.size) (.bool false) (.bool false) (.slice none 0 0) := by
      rw [hW2]
      have := World.alloc_heap_new (w0.alloc (.cells #[.slice none 0 0] 22)) (.cells #[gvF w0.heap.size, .bool false, .bool false, .slice none 0 0] 83)
      rw [World.size_alloc] at this
      exact this
    have b2 : Bx1 W2 w0.heap.size (.slice none 0 0) := by
      rw [hW2]
      exact (Below.heap_alloc _ _ _ (by simp)).trans (Bx1.new w0 _)
    have b3 : Below w0.heap.size w0 W2 := by rw [hW2]; exact Below.step (below_box _ _) (below_box _ _)
    have hit : ∀ k, k < W2.heap.size → (W2.iter s 0).heap[k]? = W2.heap[k]? := fun k hk => Below.heap_alloc _ _ _ hk
    refine ⟨st0, .slice none 0 0, .slice none 0 0, [], ⟨(hit _ (by omega)).trans b1, World.ownsRow_nil _ _ _ _⟩, (hit _ (by omega)).trans b2, OwnZ.nil _ _, Below.step b3 (below_box _ _), fun x hx => (by cases hx), ?_, ?_, ?_, by simpa using hlen, fun x hx => (by cases hx), ?_⟩
    · rw [hFS]; rfl
    · rw [hFR]
    · simpa [st0] using hlen
    · show w0.heap.size + 3 ≤ (W2.alloc _).heap.size; rw [World.size_alloc]; omega
  have HW : Hid (Calls Tryd.prog 52 #[.string s, .func (.func 53) #[.pointer (some ⟨w0.heap.size + 1, 0, none⟩)] #[]] W2 fun e B =>
      (e = .returned (.tuple #[.int .i64 E, .bool true]) ∧ RdI9 w0 1099511627777 FS FR [] B) ∨ (∃ k : Nat, e = .returned (.tuple #[.int .i64 k, .bool false]) ∧ FR.1 = some k ∧ Below w0.heap.size w0 B)) := by
    rw [hE]
    refine words_any s (w0.heap.size + 1) (RdI9 w0 1099511627777 FS FR) (fun k B => FR.1 = some k ∧ Below w0.heap.size w0 B) W2 hs hI0 ?_ ?_ ?_
    · rintro ts A B ⟨st, cv, u, L, h⟩ hg
      rw [hsz2] at hg
      exact ⟨st, cv, u, L, h.keep (fun k hk hne => hg.block k hk (by simpa using hne)) hg.size hg.os hg.tape hg.output⟩
    · rintro k ts A ⟨st, cv, u, L, h⟩
      have := h.fr
      rw [eatD] at this
      exact ⟨by rw [← this], h.bel⟩
    · intro wd k ts A p hI hw hit
      rw [hsz2] at hit ⊢
      exact take9 w0 s 1099511627777 FS FR (by omega) he wd k ts A p hI hw hit
  have HPos : Hid (∀ k, FR.1 = some k → 1 ≤ k) := hpos
  have HW2 : Hid (W2 = (w0.alloc (.cells #[.slice none 0 0] 22)).alloc (.cells #[gvF w0.heap.size, .bool false, .bool false, .slice none 0 0] 83)) := hW2
  have HW3 : Hid (Calls Tryd.prog 52 #[.string s, .func (.func 53) #[.pointer (some ⟨w0.heap.size + 1, 0, none⟩)] #[]] ((w0.alloc (.cells #[.slice none 0 0] 22)).alloc (.cells #[gvF w0.heap.size, .bool false, .bool false, .slice none 0 0] 83)) fun e B =>
      ∃ (ln : Int) (bb : Bool), e = .returned (.tuple #[.int .i64 ln, .bool bb]) ∧ ((bb = true ∧ ln = E ∧ RdI9 w0 1099511627777 FS FR [] B) ∨ (bb = false ∧ ∃ k : Nat, ln = k ∧ FR.1 = some k ∧ Below w0.heap.size w0 B))) := by
    rw [← HW2.out]
    refine HW.out.mono ?_
    rintro e B (⟨rfl, h⟩ | ⟨k, rfl, h⟩)
    · exact ⟨_, true, rfl, .inl ⟨rfl, rfl, h⟩⟩
    · exact ⟨_, false, rfl, .inr ⟨rfl, k, rfl, h⟩⟩
  clear HW HW2 hW2 hI0 hsz2 hpar hpos hFS hFR hE hP hlen he
  go_enter Tryd.func38, Tryd.ntmps38
  go_wp2_with fail
  refine HW3.out.mono ?_
  rintro e B ⟨ln, bb, rfl, hh⟩
  clear HW3
  rcases hh with ⟨rfl, rfl, hI⟩ | ⟨rfl, k, rfl, hk, hbel⟩
  · obtain ⟨st, cv, u, L, h⟩ := hI
    have hc1 := h.rx.box.c.2.1
    have hfr := h.fr
    rw [eatD] at hfr
    have HI : Hid (RdS9 w0 1099511627777 FS FR [] B st cv u L) := h
    have HPar2 : Hid (P = (FS, if st.op then E else 0)) := by show _ = _; rw [HPar.out, ← hfr]; rfl
    have hFS2 := h.fs
    have HFS : Hid (svS L = FS) := by show _ = _; rw [← hFS2, eatD]; simp
    clear h hfr hFS2 HPar HPos
    cases hop : st.op
    · rw [hop] at hc1 HPar2
      have HP1 : Hid (P.1 = FS) := by show _ = _; rw [HPar2.out]
      have HP2 : Hid (P.2 = 0) := by show _ = _; rw [HPar2.out]; rfl
      clear HPar2
      go_wp2
      go_ret
      refine ⟨by rw [HP2.out]; rfl, HI.out.bel, fun _ => ⟨u, L, HI.out.box, HI.out.all, HFS.out.trans HP1.out.symm, ?_, HI.out.m3⟩⟩
      have := HI.out.m2; simp at this; omega
    · rw [hop] at hc1 HPar2
      have HP2 : Hid (P.2 = E) := by show _ = _; rw [HPar2.out]; rfl
      clear HPar2
      go_wp2
      go_ret
      exact ⟨by rw [HP2.out]; rfl, HI.out.bel, fun h0 => (by rw [HP2.out] at h0; omega)⟩
  · have HP2 : Hid (P.2 = k) := by
      show _ = _
      rw [HPar.out]
      obtain ⟨a, b⟩ := FR
      have hk' : a = some k := hk
      subst hk'; rfl
    have hk1 := HPos.out k hk
    clear HPar HPos
    go_wp2
    go_ret
    exact ⟨by rw [HP2.out]; rfl, hbel, fun h0 => (by rw [HP2.out] at h0; omega)⟩

set_option maxRecDepth 100000 in
set_option maxHeartbeats 3200000 in
/-- drat.Read: the steps of the text, or the first fault's line -/
theorem readD_any (s : ByteArray) (w : World) (hs : s.size ≤ 1099511627776) (he : Env w) :
    Calls Tryd.prog 11 #[.string s] w fun e w' => ∃ v, e = .returned (.tuple #[v, .int .i64 (if (parD s.data.toList).2 = 0 then 0 else 90), .int .i64 ((parD s.data.toList).2 : Int)]) ∧ OwnS w.heap.size w' v (if (parD s.data.toList).2 = 0 then (parD s.data.toList).1 else []) ∧ RdZ w' v (if (parD s.data.toList).2 = 0 then (parD s.data.toList).1 else []) ∧ Below w.heap.size w w' := by
  have HS : Hid (Calls Tryd.prog 38 #[.string s, gvF w.heap.size] (w.alloc (.cells #[.slice none 0 0] 22)) fun e W' => e = .returned (.int .i64 ((parD s.data.toList).2 : Int)) ∧ Below w.heap.size w W' ∧
      ((parD s.data.toList).2 = 0 → ∃ u L, Bx1 W' w.heap.size u ∧ OwnZ (w.heap.size + 3) W' u L ∧ svS L = (parD s.data.toList).1 ∧ L.length ≤ 1099511627777 ∧ ∀ x ∈ L, x.2.2.length ≤ 1099511627777)) := stepsF_any s w hs he
  generalize parD s.data.toList = P at *
  obtain ⟨l, ln⟩ := P
  dsimp only at *
  by_cases h0 : ln = 0
  · subst h0
    have HE1 : Hid ((if (0 : Nat) = 0 then l else []) = l) := if_pos rfl
    have HE2 : Hid ((if (0 : Nat) = 0 then (0 : Int) else 90) = 0) := if_pos rfl
    rw [HE1.out, HE2.out]
    go_enter Tryd.func11, Tryd.ntmps11
    go_wp2_with fail
    refine HS.out.mono ?_
    rintro e W' ⟨rfl, bel, h⟩
    obtain ⟨u, L, hb, ho, hl, h1, h2⟩ := h (by simp)
    obtain ⟨c0, f0⟩ := hb.c
    clear HS
    go_wp2
    go_returns
    refine ⟨_, rfl, ⟨L, ho.mono (by omega), hl⟩, ?_, bel⟩
    rw [← hl]
    exact ho.rdz (by omega) (fun x hx => by have := h2 x hx; omega)
  · have HE1 : Hid ((if ln = 0 then l else []) = []) := if_neg h0
    have HE2 : Hid ((if ln = 0 then (0 : Int) else 90) = 90) := if_neg h0
    rw [HE1.out, HE2.out]
    have hpos : (0 : Int) < (ln : Int) := by omega
    go_enter Tryd.func11, Tryd.ntmps11
    go_wp2_with fail
    refine HS.out.mono ?_
    rintro e W' ⟨rfl, bel, -⟩
    clear HS
    go_wp2
    go_returns
    exact ⟨_, rfl, ⟨[], OwnZ.nil _ _, rfl⟩, RdZ.nil _, bel⟩

end Go.Proofs.YtilcokpaeapmeaaDoor
