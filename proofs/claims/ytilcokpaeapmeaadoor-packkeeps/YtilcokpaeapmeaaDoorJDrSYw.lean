/-
  joined: DrSYw RangeDw
-/
import Derived.Test.YtilcokpaeapmeaaDoorKDrTY
import Derived.Test.YtilcokpaeapmeaaDoorKDrRe
set_option linter.unusedSimpArgs false
set_option linter.unusedVariables false
namespace Go.Proofs.YtilcokpaeapmeaaDoor
open Go Go.RowKit Go.Lib Go.Sort Go.Shelf

/-- the iterator's own blocks -/
def stQ (N : Nat) (cv : Value) : Nat → Prop := fun k => k = N ∨ k = N + 1 ∨ some k = cv.ownBlock
/-- between two words: the reader, what the caller holds, and what is left -/
structure YdS (J : (Nat → Prop) → List SV → World → Prop) (N M ly : Nat) (FS : List Stp) (ts : List Tok) (W : World) (st : RSt) (cv : Value) (pre : List SV) : Prop where
  rx : Rx (N + 2) N (.func (.yield ly) #[] #[]) W st cv
  j : J (stQ N cv) pre W
  fs : svS pre ++ (eatD ts st).1 = FS
  m1 : st.cl.length + ts.length ≤ M
  sz : N + 2 ≤ W.heap.size
def YdI (J : (Nat → Prop) → List SV → World → Prop) (N M ly : Nat) (FS : List Stp) (ts : List Tok) (W : World) : Prop := ∃ st cv pre, YdS J N M ly FS ts W st cv pre
/-- how it ends: all were given, or the round has had enough -/
def YdZ (J : (Nat → Prop) → List SV → World → Prop) (Jx : List SV → World → Prop) (FS : List Stp) (W : World) : Prop := (∃ xs Q, svS xs = FS ∧ J Q xs W) ∨ (∃ pre, svS pre <+: FS ∧ Jx pre W)

section
variable {J : (Nat → Prop) → List SV → World → Prop} {Jx : List SV → World → Prop} {N M ly : Nat} {FS : List Stp}
/-- what a round must do with a step -/
def Yds (J : (Nat → Prop) → List SV → World → Prop) (Jx : List SV → World → Prop) (N ly : Nat) (FS : List Stp) : Prop :=
  ∀ Q pre (x : SV) S0 W1, J Q pre W1 → (∀ k, Q k → N ≤ k ∧ k < W1.heap.size) → svS (pre ++ [x]) <+: FS → N + 2 ≤ S0 → Own S0 W1 x.2.1 x.2.2 → (∃ A Qa, J Qa pre A ∧ A.heap.size ≤ S0 ∧ A.heap.size ≤ W1.heap.size) → (∀ k, some k = x.2.1.ownBlock → ¬ Q k) → x.2.2.length ≤ 1099511627777 → ∀ m, YieldAt Fence.wide m Tryd.prog ly #[.agg #[.bool x.1, x.2.1]] W1 fun e W' =>
    (e = .returned (.bool true) ∧ J Q (pre ++ [x]) W' ∧ (∀ k, Q k → W'.heap[k]? = W1.heap[k]?) ∧ W1.heap.size ≤ W'.heap.size) ∨ (e = .returned (.bool false) ∧ Jx (pre ++ [x]) W')

set_option maxHeartbeats 1600000 in
theorem takeYd (s : ByteArray) (hM : M ≤ 1099511627777) (hJ : ∀ Q Q' pre A B, J Q pre A → Mq A Q B Q' → J Q' pre B) (hE : ∀ Q pre A, J Q pre A → Env A) (hY : Yds J Jx N ly FS)
    (wd : List UInt8) (k : Nat) (ts : List Tok) (A : World) (p : Nat) (hI : YdI J N M ly FS ((some wd, k) :: ts) A) (hw : wd.length ≤ 1099511627776) (hit : A.heap[N + 1]? = some (.stringIter s p)) :
    Calls Tryd.prog 53 #[.pointer (some ⟨N, 0, none⟩), .string ⟨wd.toArray⟩] A fun e B => (e = .returned (.bool true) ∧ YdI J N M ly FS ts B ∧ B.heap[N + 1]? = some (.stringIter s p)) ∨ (e = .returned (.bool false) ∧ YdZ J Jx FS B) := by
  obtain ⟨st, cv, pre, h⟩ := hI
  have hsz := h.sz
  have hm1 := h.m1
  simp only [List.length_cons] at hm1
  have hcv : ∀ q, some q = cv.ownBlock → N + 2 ≤ q ∧ q < A.heap.size := fun q hq => h.rx.own.lt q hq.symm
  have widen : ∀ W' cv', Mq A (rdQ N cv) W' (rdQ N cv') → Mq A (stQ N cv) W' (stQ N cv') ∧ W'.heap[N + 1]? = some (.stringIter s p) ∧ N + 2 ≤ W'.heap.size := fun W' cv' hm =>
    ⟨⟨hm.os, hm.tape, hm.output, hm.size, fun q hq hn => hm.block q hq (fun hr => by
        rcases hr with e | e
        · exact hn (.inl e)
        · exact hn (.inr (.inr e))), fun q hq => by
        rcases hq with e | e | e
        · exact .inl (.inl e)
        · exact .inl (.inr (.inl e))
        · rcases hm.new q (.inr e) with h1 | h1
          · rcases h1 with h1 | h1
            · exact .inl (.inl h1)
            · exact .inl (.inr (.inr h1))
          · exact .inr h1⟩, (hm.block _ (by omega) (fun hr => by
        rcases hr with e | e
        · omega
        · have := (hcv _ e).1; omega)).trans hit, Nat.le_trans hsz hm.size⟩
  refine (takeY_any (N + 2) N ly A st.op st.dr st.cl cv wd h.rx hsz (by omega) (hE _ _ _ h.j) (by omega) hw
    (fun b B => (b = true → YdI J N M ly FS ts B ∧ B.heap[N + 1]? = some (.stringIter s p)) ∧ (b = false → YdZ J Jx FS B)) ?_ ?_ ?_).mono ?_
  · intro hn W' hb
    have hn' : takeW st wd = none := hn
    refine ⟨fun e => (by cases e), fun _ => .inl ⟨pre, stQ N cv, ?_, hJ _ _ _ _ _ h.j (Mq.below hb _)⟩⟩
    have := h.fs
    rw [eatD, hn'] at this
    simpa using this
  · intro st' hn cv' W' hrx hmq
    have hn' : takeW st wd = some (st', []) := hn
    obtain ⟨k1, k2, k3⟩ := takeW_len hn'
    obtain ⟨q1, q2, q3⟩ := widen W' cv' hmq
    refine ⟨fun _ => ⟨⟨st', cv', pre, hrx, hJ _ _ _ _ _ h.j q1, ?_, by omega, q3⟩, q2⟩, fun e => (by cases e)⟩
    have := h.fs
    rw [eat_one hn'] at this
    simpa using this
  · intro st' x hn v cv' W' hrx hov hcvb hmq m
    have hn' : takeW st wd = some (st', [x]) := hn
    obtain ⟨k1, k2, k3⟩ := takeW_len hn'
    obtain ⟨hx, hst⟩ := k3 x (List.mem_singleton.2 rfl)
    obtain ⟨q1, q2, q3⟩ := widen W' cv' hmq
    have hfs : svS (pre ++ [(x.1, v, x.2)]) ++ (eatD ts st').1 = FS := by
      have := h.fs
      rw [eat_one hn'] at this
      rw [svS_snoc, List.append_assoc]; simpa using this
    have hcl : x.2.length ≤ 1099511627777 := by rw [hx]; show st.cl.length ≤ _; omega
    have hqr : ∀ q, stQ N cv' q → N ≤ q ∧ q < W'.heap.size := fun q hq => by
      rcases hq with e | e | e
      · omega
      · omega
      · have := hrx.own.lt q e.symm; omega
    have hy := hY (stQ N cv') pre (x.1, v, x.2) A.heap.size W' (hJ _ _ _ _ _ h.j q1) hqr ⟨_, hfs⟩ hsz hov ⟨A, _, h.j, Nat.le_refl _, hmq.size⟩ (fun q hq hh => by
      have h1 := (hov.lt q hq.symm).1
      rcases hh with e | e | e
      · omega
      · omega
      · rw [hcvb] at e; have := (hcv q e).2; omega) hcl m
    obtain ⟨fn, tmps, assign, body, y1, y2⟩ := hy
    refine ⟨fn, tmps, assign, body, y1, y2.mono ?_⟩
    rintro e B (⟨rfl, b1, b2, b3⟩ | ⟨rfl, b1⟩)
    · refine ⟨true, rfl, fun _ => ⟨⟨st', cv', pre ++ [(x.1, v, x.2)], hrx.kept (b2 _ (.inl rfl)) (fun q hq => b2 q (.inr (.inr hq))), b1, hfs, by omega, by omega⟩, (b2 _ (.inr (.inl rfl))).trans q2⟩, fun e => (by cases e)⟩
    · exact ⟨false, rfl, fun e => (by cases e), fun _ => .inr ⟨_, ⟨_, hfs⟩, b1⟩⟩
  · rintro e B ⟨b, rfl, h1, h2⟩
    cases b
    · exact .inr ⟨rfl, h2 rfl⟩
    · exact .inl ⟨rfl, h1 rfl⟩

set_option maxRecDepth 100000 in
set_option maxHeartbeats 3200000 in
theorem stepsY_any (s : ByteArray) (w0 : World) (hN : w0.heap.size = N) (hs : s.size ≤ 1099511627776) (hFS : FS = (parD s.data.toList).1) (hJ : ∀ Q Q' pre A B, J Q pre A → Mq A Q B Q' → J Q' pre B) (hE : ∀ Q pre A, J Q pre A → Env A) (hY : Yds J Jx N ly FS) (h0 : J (fun _ => False) [] w0) :
    Calls Tryd.prog 38 #[.string s, .func (.yield ly) #[] #[]] w0 fun e W' => (∃ n : Int, e = .returned (.int .i64 n)) ∧ YdZ J Jx FS W' := by
  have hFS2 : FS = (eatD (scan s.data.toList 1 [] true false) st0).1 := by
    rw [hFS, par_fin]
    obtain ⟨a, b⟩ := (eatD (scan s.data.toList 1 [] true false) st0).2
    cases a <;> rfl
  have hlen : (scan s.data.toList 1 [] true false).length ≤ 1099511627777 := by
    have := scan_len s.data.toList 1 [] true false
    rw [size9] at this; omega
  obtain ⟨W2, hW2⟩ : ∃ W2, W2 = w0.alloc (.cells #[.func (.yield ly) #[] #[], .bool false, .bool false, .slice none 0 0] 83) := ⟨_, rfl⟩
  have hsz2 : W2.heap.size = N + 1 := by rw [hW2]; simp [hN]
  have hI0 : YdI J N 1099511627777 ly FS (scan s.data.toList 1 [] true false) (W2.iter s 0) := by
    have b1 : Br4 W2 N (.func (.yield ly) #[] #[]) (.bool false) (.bool false) (.slice none 0 0) := by
      rw [hW2, ← hN]; exact World.alloc_heap_new _ _
    have hit : ∀ k, k < W2.heap.size → (W2.iter s 0).heap[k]? = W2.heap[k]? := fun k hk => Below.heap_alloc _ _ _ hk
    have b3 : Below w0.heap.size w0 (W2.iter s 0) := by rw [hW2]; exact Below.step (below_box _ _) (below_box _ _)
    refine ⟨st0, .slice none 0 0, [], ⟨(hit _ (by omega)).trans b1, World.ownsRow_nil _ _ _ _⟩, ?_, ?_, ?_, ?_⟩
    · refine hJ _ _ _ _ _ h0 ⟨b3.os, b3.tape, b3.output, b3.size, fun k hk _ => b3.block k hk, fun k hk => .inr ?_⟩
      rcases hk with e | e | e
      · omega
      · omega
      · simp [Value.ownBlock] at e
    · rw [hFS2]; rfl
    · simpa [st0] using hlen
    · show N + 2 ≤ (W2.alloc _).heap.size; rw [World.size_alloc]; omega
  have HW : Hid (Calls Tryd.prog 52 #[.string s, .func (.func 53) #[.pointer (some ⟨N, 0, none⟩)] #[]] W2 fun e B =>
      ∃ (ln : Int) (bb : Bool), e = .returned (.tuple #[.int .i64 ln, .bool bb]) ∧ YdZ J Jx FS B ∧ (bb = true → ∃ o, B.cell? ⟨N, 1, none⟩ = some (.bool o))) := by
    refine (words_any s N (YdI J N 1099511627777 ly FS) (fun k B => YdZ J Jx FS B) W2 hs hI0 ?_ ?_ ?_).mono ?_
    · rintro ts A B ⟨st, cv, pre, h⟩ hg
      rw [hsz2] at hg
      have hsz := h.sz
      refine ⟨st, cv, pre, h.rx.kept (hg.block N (by omega) (by simp)) (fun k hk => hg.block k (h.rx.own.lt k hk.symm).2 (by have := (h.rx.own.lt k hk.symm).1; simp; omega)), hJ _ _ _ _ _ h.j ⟨hg.os, hg.tape, hg.output, hg.size, fun k hk hn => hg.block k hk (fun e => hn (.inr (.inl (by simpa using e)))), fun _ h => .inl h⟩, h.fs, h.m1, Nat.le_trans hsz hg.size⟩
    · rintro k ts A ⟨st, cv, pre, h⟩
      have := h.fs
      rw [eatD] at this
      exact .inl ⟨pre, _, by simpa using this, h.j⟩
    · intro wd k ts A p hI hw hit
      rw [hsz2] at hit ⊢
      exact takeYd s (by omega) hJ hE hY wd k ts A p hI hw hit
    · rintro e B (⟨rfl, st, cv, pre, h⟩ | ⟨k, rfl, h⟩)
      · have := h.fs
        rw [eatD] at this
        exact ⟨_, true, rfl, .inl ⟨pre, _, by simpa using this, h.j⟩, fun _ => ⟨_, h.rx.box.c.2.1⟩⟩
      · exact ⟨_, false, rfl, h, fun e => (by cases e)⟩
  subst hN
  rw [hW2] at HW
  clear hW2 hI0 hsz2 hFS hFS2 hlen hJ hE hY h0
  generalize hZ : YdZ J Jx FS = Z at *
  clear hZ
  go_enter Tryd.func38, Tryd.ntmps38
  go_wp2_with fail
  refine HW.out.mono ?_
  rintro e B ⟨ln, bb, rfl, hz, ho⟩
  clear HW
  cases bb
  · go_wp2
    go_ret
    exact ⟨⟨_, rfl⟩, hz⟩
  · obtain ⟨o, hc1⟩ := ho rfl
    clear ho
    cases o
    · go_wp2
      go_ret
      exact ⟨⟨_, rfl⟩, hz⟩
    · go_wp2
      go_ret
      exact ⟨⟨_, rfl⟩, hz⟩

set_option maxRecDepth 100000 in
set_option maxHeartbeats 1600000 in
/-- the iterator that Steps answers -/
theorem iterD_any (s : ByteArray) (Bs : Nat) (w0 : World) (hN : w0.heap.size = N) (hb : w0.cell? ⟨Bs, 0, none⟩ = some (.string s)) (hs : s.size ≤ 1099511627776) (hFS : FS = (parD s.data.toList).1) (hJ : ∀ Q Q' pre A B, J Q pre A → Mq A Q B Q' → J Q' pre B) (hE : ∀ Q pre A, J Q pre A → Env A) (hY : Yds J Jx N ly FS) (h0 : J (fun _ => False) [] w0) :
    Calls Tryd.prog 40 #[.func (.yield ly) #[] #[], .pointer (some ⟨Bs, 0, none⟩)] w0 fun e W' => (∃ v, e = .returned v) ∧ YdZ J Jx FS W' := by
  have HS : Hid (Calls Tryd.prog 38 #[.string s, .func (.yield ly) #[] #[]] w0 fun e W' => (∃ n : Int, e = .returned (.int .i64 n)) ∧ YdZ J Jx FS W') := stepsY_any s w0 hN hs hFS hJ hE hY h0
  clear hJ hE hY h0 hFS
  generalize hZ : YdZ J Jx FS = Z at *
  clear hZ
  go_enter Tryd.func40, Tryd.ntmps40
  go_wp2_with fail
  refine HS.out.mono ?_
  rintro e B ⟨⟨n, rfl⟩, hz⟩
  go_wp2
  go_end0
  exact ⟨⟨_, rfl⟩, hz⟩
end

set_option maxRecDepth 100000 in
theorem stepsF9_any (s : ByteArray) (w : World) :
    Calls Tryd.prog 12 #[.string s] w fun e w' => e = .returned (.func (.func 40) #[] #[.pointer (some ⟨w.heap.size, 0, none⟩)]) ∧ w' = w.alloc (.cells #[.string s] 9) := by
  go_enter Tryd.func12, Tryd.ntmps12
  go_wp2
  go_ret
  exact ⟨rfl, rfl⟩

end Go.Proofs.YtilcokpaeapmeaaDoor
set_option linter.unusedSimpArgs false
set_option linter.unusedVariables false
namespace Go.Proofs.YtilcokpaeapmeaaDoor
open Go Go.RowKit Go.Lib Go.Sort Go.Shelf

theorem room_none {F : Fence} (hd : F.depth = none) (k : Nat) : F.room k := fun d h => by rw [hd] at h; cases h
theorem round_any {F : Fence} (hd : F.depth = none) {m m' : Nat} {P : Program} {l : Nat} {f : FuncId} {tmps : Array Value} {assign body : Code} {w : World} {R : Ending → World → Prop} (h : RoundIn F m P l f tmps assign body w R) : RoundIn F m' P l f tmps assign body w R := ⟨h.1, fun c cs _ => h.2 c cs (room_none hd _)⟩
/-- what a round keeps of the iterator's blocks -/
def KpD (Q : Nat → Prop) (A B : World) : Prop := (∀ k, Q k → B.heap[k]? = A.heap[k]?) ∧ A.heap.size ≤ B.heap.size

theorem wpIn_rangeD {n : Nat} {g : Operand} {ps : Array Tmp} {assign body : Code} {Q : Exit → Act → World → Prop} {a : Act} {w : World} (h1 : 1 ≤ n) {Bs : Nat} {s : ByteArray} {FS : List Stp}
    (hg : a.eval g = .func (.func 40) #[] #[.pointer (some ⟨Bs, 0, none⟩)]) (hbs : w.cell? ⟨Bs, 0, none⟩ = some (.string s)) (hs : s.size ≤ 1099511627776) (hFS : FS = (parD s.data.toList).1) (hps : ps.size = 1)
    (I : (Nat → Prop) → List SV → World → Prop) (Ix : Code → List SV → World → Prop) (hI : ∀ Q, OwnFrom w.heap.size (I Q)) (hI2 : ∀ Q Q' s A B, I Q s A → Mq A Q B Q' → I Q' s B) (hIx : ∀ c, OwnFrom w.heap.size (Ix c)) (hIE : ∀ Q s A, I Q s A → Env A) (h0 : I (fun _ => False) [] w) (a₁ : SV → Nat → Act)
    (hassign : ∀ (l : Nat) (x : SV) (W : World) (K : Act → World → Prop), (∃ aa cc, x.2.1 = .slice aa x.2.2.length cc) → K (a₁ x W.heap.size) (W.alloc (.cells #[.bool x.1, x.2.1] 61)) →
      assign.wpIn (Fence.wide.inRound l) (n - 1 - 1) Tryd.prog (Exit.then K (fun _ _ _ => False)) { tmps := (ps.zip #[Value.agg #[.bool x.1, x.2.1]]).foldl (fun t (p, v) => t.setIfInBounds p v) a.tmps, defers := [] } W)
    (hbody : ∀ (l : Nat) (Qs : Nat → Prop) (pre : List SV) (x : SV) (S0 Bx : Nat) (W : World), I Qs pre W → (∀ k, Qs k → w.heap.size + 2 ≤ k ∧ k < Bx) → svS (pre ++ [x]) <+: FS → w.heap.size + 2 ≤ S0 → S0 ≤ Bx → Own S0 W x.2.1 x.2.2 → (∃ A Qa, I Qa pre A ∧ A.heap.size ≤ S0) → (∀ k, some k = x.2.1.ownBlock → ¬ Qs k) → x.2.2.length ≤ 1099511627777 → Bx2 W Bx 61 (.bool x.1) x.2.1 →
      body.wpIn (Fence.wide.inRound l) (n - 1 - 1) Tryd.prog (ownPostK (KpD Qs) (I Qs) Ix (pre ++ [x]) W) (a₁ x Bx) W)
    (hdone : ∀ (D : Nat) (Qs : Nat → Prop) (xs : List SV) (W : World), w.heap.size ≤ D → svS xs = FS → I Qs xs W → W.heap[D]? = some (.deferred (some [])) → Q .normal { a with defers := { target := .collected D, args := #[] } :: a.defers } W)
    (hstop : ∀ (D : Nat) (c : Code) (pre : List SV) (W : World), w.heap.size ≤ D → svS pre <+: FS → Ix c pre W → W.heap[D]? = some (.deferred (some [])) → c.wpIn Fence.wide n Tryd.prog Q { a with defers := { target := .collected D, args := #[] } :: a.defers } W) :
    (Code.rangeFunc g ps assign body).wpIn Fence.wide n Tryd.prog Q a w := by
  refine wpIn_rangeFunc fun fn hfn => ?_
  rw [show Fence.wide.round = none from rfl]
  let rec0 : LoopState → Option Code → Loop := fun st pe => { state := st, pending := pe, fn, tmps := a.tmps, params := ps, assign, body, defers := w.heap.size }
  let W1 : World := (w.alloc (.deferred (some []))).alloc (.loop (rec0 .ready none))
  have szW1 : W1.heap.size = w.heap.size + 2 := by simp [W1]
  have atL : W1.heap[w.heap.size + 1]? = some (.loop (rec0 .ready none)) := by
    have := World.alloc_heap_new (w.alloc (.deferred (some []))) (.loop (rec0 .ready none))
    rwa [World.size_alloc] at this
  have atD : W1.heap[w.heap.size]? = some (.deferred (some [])) := (Below.heap_alloc _ _ _ (by simp)).trans (World.alloc_heap_new w _)
  have iW1 : I (fun _ => False) [] W1 := (hI _).alloc _ ((hI _).alloc _ h0)
  have bW1 : W1.cell? ⟨Bs, 0, none⟩ = some (.string s) := by
    have hlt : Bs < w.heap.size := World.block_lt_of_cell? w _ hbs
    rw [World.cell?_of_block (w := w)]
    · exact hbs
    · exact (Below.heap_alloc _ _ _ (by simp; omega)).trans (Below.heap_alloc _ _ _ hlt)
  refine ⟨w.heap.size + 1, [{ target := .collected w.heap.size, args := #[] }], W1, { target := .fn (.func 40) #[.pointer (some ⟨Bs, 0, none⟩)], args := #[.func (.yield (w.heap.size + 1)) #[] #[]] }, W1, 40,
    #[.func (.yield (w.heap.size + 1)) #[] #[]] ++ #[.pointer (some ⟨Bs, 0, none⟩)], W1, run_enterLoop_outer _ _ _ _ _, ?_, ?_, ?_, fun _ => h1, ?_⟩
  · simp only [resolve, hg]
    simp [go_sem]
  · intro f' hf'
    trivial
  · simp [invoke, go_sem, enters_of Tryd.func40 (by kernel_rfl) rfl]
  refine (callsIn_wide.2 (iterD_any (N := w.heap.size + 2) (ly := w.heap.size + 1) (FS := FS)
    (J := fun Qs pre W => I Qs pre W ∧ (∀ k, Qs k → w.heap.size + 2 ≤ k) ∧ W.heap[w.heap.size + 1]? = some (.loop (rec0 .ready none)) ∧ W.heap[w.heap.size]? = some (.deferred (some [])))
    (Jx := fun pre W => ∃ c, Ix c pre W ∧ W.heap[w.heap.size + 1]? = some (.loop (rec0 .done (some c))) ∧ W.heap[w.heap.size]? = some (.deferred (some [])))
    s Bs W1 szW1 bW1 hs hFS ?_ ?_ ?_ ⟨iW1, fun k hk => hk.elim, atL, atD⟩)).mono ?_
  · rintro Q1 Q2 pre A B ⟨j1, j2, j3, j4⟩ hm
    have hL := (Array.getElem?_eq_some_iff.1 j3).1
    refine ⟨hI2 _ _ _ _ _ j1 hm, fun k hk => ?_, (hm.block _ hL (fun hq => by have := j2 _ hq; omega)).trans j3, (hm.block _ (by omega) (fun hq => by have := j2 _ hq; omega)).trans j4⟩
    rcases hm.new k hk with h | h
    · exact j2 k h
    · omega
  · rintro Q1 pre A ⟨j1, _⟩
    exact hIE _ _ _ j1
  · -- one round
    rintro Qs pre x S0 W ⟨hi, hq0, hl, hk⟩ hqr hpre hS0 hown hnew hxq hlen m
    have hin : w.heap.size + 1 < W.heap.size := (Array.getElem?_eq_some_iff.1 hl).1
    have hy := run_yield (P := Tryd.prog) (args := #[Value.agg #[.bool x.1, x.2.1]]) hl (by rw [hps]; rfl)
    obtain ⟨aa, cc, hxv⟩ := own_form hown
    have hSW : S0 ≤ W.heap.size ∨ True := .inr trivial
    have ow : Below W.heap.size W (W.alloc (.cells #[.bool x.1, x.2.1] 61)) := below_box _ _
    obtain ⟨Wb, hWb⟩ : ∃ Wb, Wb = W.alloc (.cells #[.bool x.1, x.2.1] 61) := ⟨_, rfl⟩
    have szb : Wb.heap.size = W.heap.size + 1 := by rw [hWb]; simp
    have oldb : ∀ k, k < W.heap.size → Wb.heap[k]? = W.heap[k]? := fun k hk => by rw [hWb]; exact Below.heap_alloc _ _ _ hk
    have hlb : Wb.heap[w.heap.size + 1]? = some (.loop (rec0 .ready none)) := (oldb _ hin).trans hl
    have hkb : Wb.heap[w.heap.size]? = some (.deferred (some [])) := (oldb _ (by omega)).trans hk
    have hib : I Qs pre Wb := by rw [hWb]; exact (hI Qs).alloc _ hi
    have hbx : Bx2 Wb W.heap.size 61 (.bool x.1) x.2.1 := by rw [hWb]; exact Bx2.new _ _ _ _
    have hob : Own (min S0 W.heap.size) Wb x.2.1 x.2.2 := by rw [hWb]; exact (World.ownsRow.alloc (hown.mono (Nat.min_le_left _ _)) _)
    refine ⟨fn, _, assign, body, hy, round_any (m := n - 1 - 1) rfl (roundIn_of_wpIn hfn (hassign _ x W _ ⟨aa, cc, hxv⟩ ⟨_, by rw [← hWb]; exact run_beginRound hlb rfl, ?_⟩))⟩
    let busy : Loop := { rec0 .ready none with state := .busy }
    have hinb : w.heap.size + 1 < Wb.heap.size := by omega
    have lB : (Wb.putObj (w.heap.size + 1) (.loop busy)).heap[w.heap.size + 1]? = some (.loop busy) := World.putObj_heap_same hinb
    have dB : (Wb.putObj (w.heap.size + 1) (.loop busy)).heap[w.heap.size]? = some (.deferred (some [])) := (World.putObj_heap_other (by omega)).trans hkb
    have othB : ∀ k, k ≠ w.heap.size + 1 → (Wb.putObj (w.heap.size + 1) (.loop busy)).heap[k]? = Wb.heap[k]? := fun k hk => World.putObj_heap_other hk
    have szB : (Wb.putObj (w.heap.size + 1) (.loop busy)).heap.size = Wb.heap.size := by simp [World.putObj]
    refine wpIn_mono (hbody _ Qs pre x (min S0 W.heap.size) W.heap.size _ ((hI Qs).putObj _ hib (by omega) hlb rfl) (fun k hk => ⟨hq0 k hk, (hqr k hk).2⟩) hpre (by omega) (Nat.min_le_right _ _) (own_keep9 hob fun k hk => othB k (by have := (hob.lt k hk.symm).1; omega)) (by obtain ⟨A, Qa, ⟨ja, -⟩, j5, j6⟩ := hnew; exact ⟨A, Qa, ja, Nat.le_min.2 ⟨j5, j6⟩⟩) hxq hlen ((othB _ (by omega)).trans hbx)) ?_
    have close : ∀ (jump : Option Code) (W3 : World), KeepsOthers (Wb.putObj (w.heap.size + 1) (.loop busy)) W3 →
        (Instr.endRound (w.heap.size + 1) jump).run Tryd.prog W3 = .ok (.bool jump.isNone) (W3.putObj (w.heap.size + 1) (.loop (rec0 (if jump.isNone then .ready else .done) jump))) ∧
        W3.heap[w.heap.size + 1]? = some (.loop busy) ∧
        (W3.putObj (w.heap.size + 1) (.loop (rec0 (if jump.isNone then .ready else .done) jump))).heap[w.heap.size + 1]? = some (.loop (rec0 (if jump.isNone then .ready else .done) jump)) ∧
        (W3.putObj (w.heap.size + 1) (.loop (rec0 (if jump.isNone then .ready else .done) jump))).heap[w.heap.size]? = some (.deferred (some [])) := fun jump W3 k3 => by
      have l3 := k3.same _ _ lB rfl
      exact ⟨run_endRound (P := Tryd.prog) jump l3, l3, World.putObj_heap_same (Array.getElem?_eq_some_iff.1 l3).1, (World.putObj_heap_other (by omega)).trans (k3.same _ _ dB rfl)⟩
    rintro e a3 W3 hp
    cases e with
    | normal =>
      obtain ⟨k3, kp3, i3⟩ := hp
      obtain ⟨hr, l3, l4, d4⟩ := close none W3 k3
      refine ⟨_, _, hr, .inl ⟨rfl, ⟨(hI Qs).putObj _ i3 (by omega) l3 rfl, hq0, l4, d4⟩, fun k hk => ?_, ?_⟩⟩
      · have hk2 : k ≠ w.heap.size + 1 := by have := hq0 k hk; omega
        rw [World.putObj_heap_other hk2, kp3.1 k hk, othB k hk2]
        exact oldb k (hqr k hk).2
      · have := kp3.2; simp only [World.putObj, Array.size_setIfInBounds] at this ⊢; omega
    | ret =>
      obtain ⟨k3, i3⟩ := hp
      obtain ⟨hr, l3, l4, d4⟩ := close (some .ret) W3 k3
      exact ⟨_, _, hr, .inr ⟨rfl, .ret, (hIx _).putObj _ i3 (by omega) l3 rfl, l4, d4⟩⟩
    | exit id =>
      obtain ⟨k3, i3⟩ := hp
      obtain ⟨hr, l3, l4, d4⟩ := close (some (.exit id)) W3 k3
      exact ⟨_, _, hr, .inr ⟨rfl, .exit id, (hIx _).putObj _ i3 (by omega) l3 rfl, l4, d4⟩⟩
    | goto t =>
      obtain ⟨k3, i3⟩ := hp
      obtain ⟨hr, l3, l4, d4⟩ := close (some (.goto t)) W3 k3
      exact ⟨_, _, hr, .inr ⟨rfl, .goto t, (hIx _).putObj _ i3 (by omega) l3 rfl, l4, d4⟩⟩
    | panic ch => exact hp.elim
    | outgrown => exact hp.elim
  · -- behind the iterator
    rintro e W2 ⟨⟨v, rfl⟩, (⟨xs, Qs, hS, hi, hq, hl, hk⟩ | ⟨pre, hSp, c, hi, hl, hk⟩)⟩
    · exact ⟨none, _, run_endLoop (P := Tryd.prog) hl (by simp [rec0]), hdone _ Qs xs _ (Nat.le_refl _) hS ((hI Qs).putObj _ hi (by omega) hl rfl) ((World.putObj_heap_other (by omega)).trans hk)⟩
    · exact ⟨some c, _, run_endLoop (P := Tryd.prog) hl (by simp [rec0]), hstop _ c pre _ (Nat.le_refl _) hSp ((hIx c).putObj _ hi (by omega) hl rfl) ((World.putObj_heap_other (by omega)).trans hk)⟩

end Go.Proofs.YtilcokpaeapmeaaDoor
