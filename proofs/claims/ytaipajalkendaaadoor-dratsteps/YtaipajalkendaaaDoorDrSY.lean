/-
  drat.steps, walked, where the steps are given to a range's round; drat.Steps and its iterator.
  KEEP: box own below mono lt set kept new trans refl app on grown cell out block size os tape output c f c0 c1 row ap rdz nil rx
-/
import Derived.Test.YtaipajalkendaaaDoorDrTY
import Derived.Test.YtaipajalkendaaaDoorDrRe
set_option linter.unusedSimpArgs false
set_option linter.unusedVariables false
namespace Go.Proofs.YtaipajalkendaaaDoor
open Go Go.RowKit Go.Lib Go.Sort Go.Shelf

/-- the iterator's own blocks -/
def stQ (N : Nat) (cv : Value) : Nat → Prop := fun k => k = N ∨ k = N + 1 ∨ some k = cv.ownBlock
/-- between two words: the reader, what the caller holds, and what is left -/
structure YdS (J : (Nat → Prop) → List SV → World → Prop) (N M ly : Nat) (FS : List Stp) (ts : List Tok) (W : World) (st : RSt) (cv : Value) (pre : List SV) : Prop where
  rx : Rx (N + 2) N (.func (.yield ly) #[] #[]) W st cv
  j : J (stQ N cv) pre W
  fs : svS pre ++ (eatD ts st).1 = FS
  m1 : st.cl.length + ts.length ≤ M
  sz : N + 2 ≤ W.heap.size
def YdI (J : (Nat → Prop) → List SV → World → Prop) (N M ly : Nat) (FS : List Stp) (ts : List Tok) (W : World) : Prop := ∃ st cv pre, YdS J N M ly FS ts W st cv pre
/-- how it ends: all were given, or the round has had enough -/
def YdZ (J : (Nat → Prop) → List SV → World → Prop) (Jx : List SV → World → Prop) (FS : List Stp) (W : World) : Prop := (∃ xs Q, svS xs = FS ∧ J Q xs W) ∨ (∃ pre, svS pre <+: FS ∧ Jx pre W)

section
variable {J : (Nat → Prop) → List SV → World → Prop} {Jx : List SV → World → Prop} {N M ly : Nat} {FS : List Stp}
/-- what a round must do with a step -/
def Yds (J : (Nat → Prop) → List SV → World → Prop) (Jx : List SV → World → Prop) (N ly : Nat) (FS : List Stp) : Prop :=
  ∀ Q pre (x : SV) S0 W1, J Q pre W1 → (∀ k, Q k → N ≤ k ∧ k < W1.heap.size) → svS (pre ++ [x]) <+: FS → N + 2 ≤ S0 → Own S0 W1 x.2.1 x.2.2 → (∀ k, some k = x.2.1.ownBlock → ¬ Q k) → x.2.2.length ≤ 1099511627777 → ∀ m, YieldAt Fence.wide m Tryd.prog ly #[.agg #[.bool x.1, x.2.1]] W1 fun e W' =>
    (e = .returned (.bool true) ∧ J Q (pre ++ [x]) W' ∧ (∀ k, Q k → W'.heap[k]? = W1.heap[k]?) ∧ W1.heap.size ≤ W'.heap.size) ∨ (e = .returned (.bool false) ∧ Jx (pre ++ [x]) W')

set_option maxHeartbeats 1600000 in
theorem takeYd (s : ByteArray) (hM : M ≤ 1099511627777) (hJ : ∀ Q Q' pre A B, J Q pre A → Mq A Q B Q' → J Q' pre B) (hE : ∀ Q pre A, J Q pre A → Env A) (hY : Yds J Jx N ly FS)
    (wd : List UInt8) (k : Nat) (ts : List Tok) (A : World) (p : Nat) (hI : YdI J N M ly FS ((some wd, k) :: ts) A) (hw : wd.length ≤ 1099511627776) (hit : A.heap[N + 1]? = some (.stringIter s p)) :
    Calls Tryd.prog 54 #[.pointer (some ⟨N, 0, none⟩), .string ⟨wd.toArray⟩] A fun e B => (e = .returned (.bool true) ∧ YdI J N M ly FS ts B ∧ B.heap[N + 1]? = some (.stringIter s p)) ∨ (e = .returned (.bool false) ∧ YdZ J Jx FS B) := by
  obtain ⟨st, cv, pre, h⟩ := hI
  have hsz := h.sz
  have hm1 := h.m1
  simp only [List.length_cons] at hm1
  have hcv : ∀ q, some q = cv.ownBlock → N + 2 ≤ q ∧ q < A.heap.size := fun q hq => h.rx.own.lt q hq.symm
  have widen : ∀ W' cv', Mq A (rdQ N cv) W' (rdQ N cv') → Mq A (stQ N cv) W' (stQ N cv') ∧ W'.heap[N + 1]? = some (.stringIter s p) ∧ N + 2 ≤ W'.heap.size := fun W' cv' hm =>
    ⟨⟨hm.os, hm.tape, hm.output, hm.size, fun q hq hn => hm.block q hq (fun hr => by
        rcases hr with e | e
        · exact hn (.inl e)
        · exact hn (.inr (.inr e))), fun q hq => by
        rcases hq with e | e | e
        · exact .inl (.inl e)
        · exact .inl (.inr (.inl e))
        · rcases hm.new q (.inr e) with h1 | h1
          · rcases h1 with h1 | h1
            · exact .inl (.inl h1)
            · exact .inl (.inr (.inr h1))
          · exact .inr h1⟩, (hm.block _ (by omega) (fun hr => by
        rcases hr with e | e
        · omega
        · have := (hcv _ e).1; omega)).trans hit, Nat.le_trans hsz hm.size⟩
  refine (takeY_any (N + 2) N ly A st.op st.dr st.cl cv wd h.rx hsz (by omega) (hE _ _ _ h.j) (by omega) hw
    (fun b B => (b = true → YdI J N M ly FS ts B ∧ B.heap[N + 1]? = some (.stringIter s p)) ∧ (b = false → YdZ J Jx FS B)) ?_ ?_ ?_).mono ?_
  · intro hn W' hb
    have hn' : takeW st wd = none := hn
    refine ⟨fun e => (by cases e), fun _ => .inl ⟨pre, stQ N cv, ?_, hJ _ _ _ _ _ h.j (Mq.below hb _)⟩⟩
    have := h.fs
    rw [eatD, hn'] at this
    simpa using this
  · intro st' hn cv' W' hrx hmq
    have hn' : takeW st wd = some (st', []) := hn
    obtain ⟨k1, k2, k3⟩ := takeW_len hn'
    obtain ⟨q1, q2, q3⟩ := widen W' cv' hmq
    refine ⟨fun _ => ⟨⟨st', cv', pre, hrx, hJ _ _ _ _ _ h.j q1, ?_, by omega, q3⟩, q2⟩, fun e => (by cases e)⟩
    have := h.fs
    rw [eat_one hn'] at this
    simpa using this
  · intro st' x hn v cv' W' hrx hov hcvb hmq m
    have hn' : takeW st wd = some (st', [x]) := hn
    obtain ⟨k1, k2, k3⟩ := takeW_len hn'
    obtain ⟨hx, hst⟩ := k3 x (List.mem_singleton.2 rfl)
    obtain ⟨q1, q2, q3⟩ := widen W' cv' hmq
    have hfs : svS (pre ++ [(x.1, v, x.2)]) ++ (eatD ts st').1 = FS := by
      have := h.fs
      rw [eat_one hn'] at this
      rw [svS_snoc, List.append_assoc]; simpa using this
    have hcl : x.2.length ≤ 1099511627777 := by rw [hx]; show st.cl.length ≤ _; omega
    have hqr : ∀ q, stQ N cv' q → N ≤ q ∧ q < W'.heap.size := fun q hq => by
      rcases hq with e | e | e
      · omega
      · omega
      · have := hrx.own.lt q e.symm; omega
    have hy := hY (stQ N cv') pre (x.1, v, x.2) A.heap.size W' (hJ _ _ _ _ _ h.j q1) hqr ⟨_, hfs⟩ hsz hov (fun q hq hh => by
      have h1 := (hov.lt q hq.symm).1
      rcases hh with e | e | e
      · omega
      · omega
      · rw [hcvb] at e; have := (hcv q e).2; omega) hcl m
    obtain ⟨fn, tmps, assign, body, y1, y2⟩ := hy
    refine ⟨fn, tmps, assign, body, y1, y2.mono ?_⟩
    rintro e B (⟨rfl, b1, b2, b3⟩ | ⟨rfl, b1⟩)
    · refine ⟨true, rfl, fun _ => ⟨⟨st', cv', pre ++ [(x.1, v, x.2)], hrx.kept (b2 _ (.inl rfl)) (fun q hq => b2 q (.inr (.inr hq))), b1, hfs, by omega, by omega⟩, (b2 _ (.inr (.inl rfl))).trans q2⟩, fun e => (by cases e)⟩
    · exact ⟨false, rfl, fun e => (by cases e), fun _ => .inr ⟨_, ⟨_, hfs⟩, b1⟩⟩
  · rintro e B ⟨b, rfl, h1, h2⟩
    cases b
    · exact .inr ⟨rfl, h2 rfl⟩
    · exact .inl ⟨rfl, h1 rfl⟩

set_option maxRecDepth 100000 in
set_option maxHeartbeats 3200000 in
theorem stepsY_any (s : ByteArray) (w0 : World) (hN : w0.heap.size = N) (hs : s.size ≤ 1099511627776) (hFS : FS = (parD s.data.toList).1) (hJ : ∀ Q Q' pre A B, J Q pre A → Mq A Q B Q' → J Q' pre B) (hE : ∀ Q pre A, J Q pre A → Env A) (hY : Yds J Jx N ly FS) (h0 : J (fun _ => False) [] w0) :
    Calls Tryd.prog 37 #[.string s, .func (.yield ly) #[] #[]] w0 fun e W' => (∃ n : Int, e = .returned (.int .i64 n)) ∧ YdZ J Jx FS W' := by
  have hFS2 : FS = (eatD (scan s.data.toList 1 [] true false) st0).1 := by
    rw [hFS, par_fin]
    obtain ⟨a, b⟩ := (eatD (scan s.data.toList 1 [] true false) st0).2
    cases a <;> rfl
  have hlen : (scan s.data.toList 1 [] true false).length ≤ 1099511627777 := by
    have := scan_len s.data.toList 1 [] true false
    rw [size9] at this; omega
  obtain ⟨W2, hW2⟩ : ∃ W2, W2 = w0.alloc (.cells #[.func (.yield ly) #[] #[], .bool false, .bool false, .slice none 0 0] 95) := ⟨_, rfl⟩
  have hsz2 : W2.heap.size = N + 1 := by rw [hW2]; simp [hN]
  have hI0 : YdI J N 1099511627777 ly FS (scan s.data.toList 1 [] true false) (W2.iter s 0) := by
    have b1 : Bx4 W2 N (.func (.yield ly) #[] #[]) (.bool false) (.bool false) (.slice none 0 0) := by
      rw [hW2, ← hN]; exact World.alloc_heap_new _ _
    have hit : ∀ k, k < W2.heap.size → (W2.iter s 0).heap[k]? = W2.heap[k]? := fun k hk => Below.heap_alloc _ _ _ hk
    have b3 : Below w0.heap.size w0 (W2.iter s 0) := by rw [hW2]; exact Below.step (below_box _ _) (below_box _ _)
    refine ⟨st0, .slice none 0 0, [], ⟨(hit _ (by omega)).trans b1, World.ownsRow_nil _ _ _ _⟩, ?_, ?_, ?_, ?_⟩
    · refine hJ _ _ _ _ _ h0 ⟨b3.os, b3.tape, b3.output, b3.size, fun k hk _ => b3.block k hk, fun k hk => .inr ?_⟩
      rcases hk with e | e | e
      · omega
      · omega
      · simp [Value.ownBlock] at e
    · rw [hFS2]; rfl
    · simpa [st0] using hlen
    · show N + 2 ≤ (W2.alloc _).heap.size; rw [World.size_alloc]; omega
  have HW : Hid (Calls Tryd.prog 53 #[.string s, .func (.func 54) #[.pointer (some ⟨N, 0, none⟩)] #[]] W2 fun e B =>
      ∃ (ln : Int) (bb : Bool), e = .returned (.tuple #[.int .i64 ln, .bool bb]) ∧ YdZ J Jx FS B ∧ (bb = true → ∃ o, B.cell? ⟨N, 1, none⟩ = some (.bool o))) := by
    refine (words_any s N (YdI J N 1099511627777 ly FS) (fun k B => YdZ J Jx FS B) W2 hs hI0 ?_ ?_ ?_).mono ?_
    · rintro ts A B ⟨st, cv, pre, h⟩ hg
      rw [hsz2] at hg
      have hsz := h.sz
      refine ⟨st, cv, pre, h.rx.kept (hg.block N (by omega) (by simp)) (fun k hk => hg.block k (h.rx.own.lt k hk.symm).2 (by have := (h.rx.own.lt k hk.symm).1; simp; omega)), hJ _ _ _ _ _ h.j ⟨hg.os, hg.tape, hg.output, hg.size, fun k hk hn => hg.block k hk (fun e => hn (.inr (.inl (by simpa using e)))), fun _ h => .inl h⟩, h.fs, h.m1, Nat.le_trans hsz hg.size⟩
    · rintro k ts A ⟨st, cv, pre, h⟩
      have := h.fs
      rw [eatD] at this
      exact .inl ⟨pre, _, by simpa using this, h.j⟩
    · intro wd k ts A p hI hw hit
      rw [hsz2] at hit ⊢
      exact takeYd s (by omega) hJ hE hY wd k ts A p hI hw hit
    · rintro e B (⟨rfl, st, cv, pre, h⟩ | ⟨k, rfl, h⟩)
      · have := h.fs
        rw [eatD] at this
        exact ⟨_, true, rfl, .inl ⟨pre, _, by simpa using this, h.j⟩, fun _ => ⟨_, h.rx.box.c.2.1⟩⟩
      · exact ⟨_, false, rfl, h, fun e => (by cases e)⟩
  subst hN
  rw [hW2] at HW
  clear hW2 hI0 hsz2 hFS hFS2 hlen hJ hE hY h0
  generalize hZ : YdZ J Jx FS = Z at *
  clear hZ
  go_enter Tryd.func37, Tryd.ntmps37
  go_wp2_with fail
  refine HW.out.mono ?_
  rintro e B ⟨ln, bb, rfl, hz, ho⟩
  clear HW
  cases bb
  · go_wp2
    go_ret
    exact ⟨⟨_, rfl⟩, hz⟩
  · obtain ⟨o, hc1⟩ := ho rfl
    clear ho
    cases o
    · go_wp2
      go_ret
      exact ⟨⟨_, rfl⟩, hz⟩
    · go_wp2
      go_ret
      exact ⟨⟨_, rfl⟩, hz⟩

set_option maxRecDepth 100000 in
set_option maxHeartbeats 1600000 in
/-- the iterator that Steps answers -/
theorem iterD_any (s : ByteArray) (Bs : Nat) (w0 : World) (hN : w0.heap.size = N) (hb : w0.cell? ⟨Bs, 0, none⟩ = some (.string s)) (hs : s.size ≤ 1099511627776) (hFS : FS = (parD s.data.toList).1) (hJ : ∀ Q Q' pre A B, J Q pre A → Mq A Q B Q' → J Q' pre B) (hE : ∀ Q pre A, J Q pre A → Env A) (hY : Yds J Jx N ly FS) (h0 : J (fun _ => False) [] w0) :
    Calls Tryd.prog 36 #[.func (.yield ly) #[] #[], .pointer (some ⟨Bs, 0, none⟩)] w0 fun e W' => (∃ v, e = .returned v) ∧ YdZ J Jx FS W' := by
  have HS : Hid (Calls Tryd.prog 37 #[.string s, .func (.yield ly) #[] #[]] w0 fun e W' => (∃ n : Int, e = .returned (.int .i64 n)) ∧ YdZ J Jx FS W') := stepsY_any s w0 hN hs hFS hJ hE hY h0
  clear hJ hE hY h0 hFS
  generalize hZ : YdZ J Jx FS = Z at *
  clear hZ
  go_enter Tryd.func36, Tryd.ntmps36
  go_wp2_with fail
  refine HS.out.mono ?_
  rintro e B ⟨⟨n, rfl⟩, hz⟩
  go_wp2
  go_end0
  exact ⟨⟨_, rfl⟩, hz⟩
end

set_option maxRecDepth 100000 in
theorem stepsF9_any (s : ByteArray) (w : World) :
    Calls Tryd.prog 16 #[.string s] w fun e w' => e = .returned (.func (.func 36) #[] #[.pointer (some ⟨w.heap.size, 0, none⟩)]) ∧ w' = w.alloc (.cells #[.string s] 9) := by
  go_enter Tryd.func16, Tryd.ntmps16
  go_wp2
  go_ret
  exact ⟨rfl, rfl⟩

end Go.Proofs.YtaipajalkendaaaDoor
