/-
  ArenaLives: ranges over a Live that was taken earlier, held against want.
  KEEP: set on app at below new trans refl start ap kept rd rds mono own row cells lt box lo ml ms c0 f0 form max find eq ma some none more map keep mv c kill kst book step after block size cell alloc from same bx pw oq ol lst from bel nb low item
-/
import Derived.Test.YtbhjpahieghepaaKAo8
import Derived.Test.YtbhjpahieghepaaRangeX
import Derived.Test.YtbhjpahieghepaaKAp6
set_option linter.unusedSimpArgs false
set_option linter.unusedVariables false
namespace Go.Proofs.Ytbhjpahieghepaa
open Go Go.RowKit Go.Maps Go.Shelf

/-- a range that may be left by a break: the way behind it is walked once -/
theorem wpIn_rangeW_brk {F : Fence} {n : Nat} {P : Program} {α : Type} {g : Operand} {ps : Array Tmp} {assign body : Code} {Q : Exit → Act → World → Prop} {a : Act} {w : World}
    (hro : F.round = none) (h1 : 1 ≤ n) {gf : Nat} {lb : Array Value} (hg : a.eval g = .func (.func gf) #[] lb) (hFg : F.fn gf) (eg : ∀ args w, (callFunc gf args).run P w = .ok (.enter gf args) w)
    {encs : α → Array Value} {V : Nat → List α → α → World → Prop} {Kp : World → World → Prop} {S Sp : List α → Prop} {w0 : World} (hseq : SeqW F (n - 1) P gf lb encs V Kp S Sp w0)
    (hKt : ∀ {A B C : World}, Kp A B → Kp B C → Kp A C) (hKb : ∀ (W : World) (l : Nat) (o o' : Obj), w.heap.size ≤ l → W.heap[l]? = some o → o.isCells = false → o.isWalk = false → Kp W (W.putObj l o')) (hKa : ∀ (W : World) (o : Obj), Kp w0 W → Kp w0 (W.alloc o)) (hb0 : Kp w0 w) (hps : ∀ x, (encs x).size = ps.size)
    (I : List α → World → Prop) (E : World → Prop) (id : Nat) (hI : OwnFrom w.heap.size I) (hE : OwnFrom w.heap.size (fun (_ : Unit) W => E W)) (hV : ∀ m pre, OwnFrom w.heap.size (V m pre)) (h0 : I [] w) (a₁ : α → Act)
    (hassign : ∀ (l : Nat) (x : α) (W : World) (K : Act → World → Prop), K (a₁ x) W →
      assign.wpIn (F.inRound l) (n - 1 - 1) P (Exit.then K (fun _ _ _ => False)) { tmps := (ps.zip (encs x)).foldl (fun t (p, v) => t.setIfInBounds p v) a.tmps, defers := [] } W)
    (hbody : ∀ (l : Nat) (pre : List α) (x : α) (W0 W : World), I pre W0 → w.heap.size + 2 ≤ W0.heap.size → (∀ Z : World → Prop, OwnFrom w.heap.size (fun (_ : Unit) W => Z W) → Z W0 → Z W) → V W0.heap.size pre x W → body.wpIn (F.inRound l) (n - 1 - 1) P (ownPostK Kp I (fun c _ W => c = .exit id ∧ E W) (pre ++ [x]) W) (a₁ x) W)
    (hdone : ∀ (xs : List α) (W : World), S xs → I xs W → E W) (hQ : ∀ a w, Q .normal a w → Q (.exit id) a w)
    (htail : ∀ (D : Nat) (W : World), w.heap.size ≤ D → E W → W.heap[D]? = some (.deferred (some [])) → Q .normal { a with defers := { target := .collected D, args := #[] } :: a.defers } W) :
    (Code.rangeFunc g ps assign body).wpIn F n P Q a w :=
  wpIn_rangeW hro h1 hg hFg eg hseq hKt hKb hKa hb0 hps I (fun c _ W => c = .exit id ∧ E W) hI (fun c s A B row hs hg hr => ⟨hs.1, hE () A B row hs.2 hg hr⟩) hV h0 a₁ hassign hbody
    (fun D xs W hD hS hI hK => htail D W hD (hdone xs W hS hI) hK)
    (fun D c pre W hD hSp hIx hK => by
      obtain ⟨rfl, hE'⟩ := hIx
      exact wpIn_exit (hQ _ _ (htail D W hD hE' hK)))

theorem Sm.next {w2 W : World} {n : Nat} (h : Sm w2 W n) : Sm w2 (W.setCell ⟨w2.heap.size, 0, none⟩ (.int .i64 ((n : Int) + 1))) (n + 1) := by
  have hg := grown_set W ⟨w2.heap.size, 0, none⟩ (.int .i64 ((n : Int) + 1))
  refine ⟨⟨hg.os.trans h.bel.os, hg.tape.trans h.bel.tape, hg.output.trans h.bel.output, Nat.le_trans h.bel.size hg.size, fun k hk => (hg.block k (Nat.lt_of_lt_of_le hk h.bel.size) (by intro e; have e' : k = w2.heap.size := (by simpa using e); omega)).trans (h.bel.block k hk)⟩, ?_⟩
  have := set_heap4 h.nb 0 (.int .i64 ((n : Int) + 1))
  rw [this]
  simp
theorem Sm.zero {w2 W : World} {n : Nat} (h : Sm w2 W n) : Sm w2 (W.setCell ⟨w2.heap.size, 0, none⟩ (.int .i64 0)) 0 := by
  have hg := grown_set W ⟨w2.heap.size, 0, none⟩ (.int .i64 0)
  refine ⟨⟨hg.os.trans h.bel.os, hg.tape.trans h.bel.tape, hg.output.trans h.bel.output, Nat.le_trans h.bel.size hg.size, fun k hk => (hg.block k (Nat.lt_of_lt_of_le hk h.bel.size) (by intro e; have e' : k = w2.heap.size := (by simpa using e); omega)).trans (h.bel.block k hk)⟩, ?_⟩
  have := set_heap4 h.nb 0 (.int .i64 0)
  rw [this]
  simp
/-- what stands between two rounds, and a mark -/
structure Sn (w2 W : World) (n Dm : Nat) : Prop where
  sm : Sm w2 W n
  dm : W.heap[Dm]? = some (.deferred (some []))
theorem Sn.from {w2 : World} {n Dm B : Nat} (hB : w2.heap.size + 1 ≤ B) (hD : Dm < B) : OwnFrom B (fun (_ : Unit) W => Sn w2 W n Dm) := fun _ X Y row h hg hr =>
  ⟨Sm.from hB () X Y row h.sm hg hr, (hg.block _ (Array.getElem?_eq_some_iff.1 h.dm).1 (fun e => by have := (hr _ e.symm).1; omega)).trans h.dm⟩
theorem sm_kq {w2 W W' : World} {n : Nat} {Q : Nat → Prop} {y : Value} (hQ : ∀ k, Q k → k < w2.heap.size) (h : Sm w2 W n) (hb : Below W.heap.size W W') : Kq Q W (W'.setCell ⟨w2.heap.size, 0, none⟩ y) := by
  have hg := grown_set W' ⟨w2.heap.size, 0, none⟩ y
  have hs := h.bel.size
  refine ⟨Nat.le_trans hb.size hg.size, fun k hk => ?_⟩
  have hk' := hQ k hk
  exact (hg.block k (by have := hb.size; omega) (by intro e; have e' : k = w2.heap.size := (by simpa using e); omega)).trans (hb.block k (by omega))
/-- want, and the Live that was taken at S0, as they lie in w2 -/
structure Wx (w2 : World) (Bl Bw g lo : Nat) (u : Value) (S0 : List Seg) (M : List Mt) (wa : Option Addr) (wc : Nat) : Prop where
  lb : w2.heap[Bl]? = some (.cells #[u] 69 (0, 0))
  lr : w2.ownsRow lo 73 2 u (lv 0 S0).length (rowsC g (lv 0 S0))
  lw : lv 0 S0 = [] ∨ (g < w2.heap.size ∧ ∀ x ∈ lv 0 S0, ∀ j, j < x.2.1.length → w2.cell? ⟨g, x.1.toNat + 1 + j, none⟩ = some (.int .i64 (x.2.1.getD j 0)))
  wb : w2.heap[Bw]? = some (.cells #[.slice wa M.length wc] 36 (0, 0))
  wr : ∃ B, w2.ownsRow B 43 4 (.slice wa M.length wc) M.length (rowsM M)
  wl : ∀ x ∈ M, Own 0 w2 x.1 x.2.lits
  eq : M.map (fun x => (x.2.pl, x.2.lits)) = rdL (lv 0 S0)
  few : (flat S0).length ≤ 1099511627776
section
variable {w2 W : World} {Bl Bw g lo : Nat} {u : Value} {S0 : List Seg} {M : List Mt} {wa : Option Addr} {wc : Nat}
/-- the blocks that the iterator reads -/
def Qw (Bl g : Nat) (u : Value) (S0 : List Seg) (k : Nat) : Prop := k = Bl ∨ u.ownBlock = some k ∨ (lv 0 S0 ≠ [] ∧ k = g)
theorem Wx.lt (h : Wx w2 Bl Bw g lo u S0 M wa wc) : ∀ k, Qw Bl g u S0 k → k < w2.heap.size := fun k hk => by
  rcases hk with rfl | q | ⟨hne, rfl⟩
  · exact (Array.getElem?_eq_some_iff.1 h.lb).1
  · exact (World.ownsRow.lt h.lr k q).2
  · rcases h.lw with e | ⟨e, _⟩
    · exact absurd e hne
    · exact e
theorem Wx.seq (h : Wx w2 Bl Bw g lo u S0 M wa wc) (n : Nat) (hn : 1 ≤ n) : SeqW Fence.wide n Try.prog 28 #[.pointer (some ⟨Bl, 0, none⟩)] (fun x : Itl => #[.int .i64 x.1, x.2.1]) (fun m => VL m (rdL (lv 0 S0))) (Kq (Qw Bl g u S0)) (fun xs => xs.map Itl.proj = rdL (lv 0 S0)) (fun pre => pre.map Itl.proj <+: rdL (lv 0 S0)) w2 := by
  have hlvl := lv_len_le S0 0
  have hf := h.few
  refine live_seqW n hn Bl g _ u (lv 0 S0) w2 (Qw Bl g u S0) (.inl rfl) (fun k hk => .inr (.inl hk)) (fun hne => .inr (.inr ⟨hne, rfl⟩)) h.lt h.lb h.lr (fun k hk j hj => ?_) (fun k hk => ?_) (by omega)
  · rcases h.lw with e | ⟨_, e⟩
    · rw [e] at hk; simp at hk
    · exact e _ (List.getElem_mem hk) j hj
  · have hfj := lv_find (List.getElem_mem hk)
    rw [Int.sub_zero] at hfj
    have : (lv 0 S0)[k].2.1.length ≤ (flat S0).length := lits_le hfj
    omega
theorem Wx.len (h : Wx w2 Bl Bw g lo u S0 M wa wc) : M.length = (lv 0 S0).length := by
  have := congrArg List.length h.eq
  simpa only [rdL, List.length_map] using this
/-- an item that is yielded is the next of want's -/
theorem Wx.item (h : Wx w2 Bl Bw g lo u S0 M wa wc) (hb : Below w2.heap.size w2 W) {pre : List Itl} {xp : Int} {xs : Value} {xl : List Int} (hpx : (pre ++ [((xp, xs, xl) : Itl)]).map Itl.proj <+: rdL (lv 0 S0)) :
    pre.length < M.length ∧ xl.length ≤ 1099511627776 ∧ ∃ gw la lc, wa = some ⟨gw, 0, none⟩ ∧ W.cell? ⟨gw, pre.length * 4, none⟩ = some (.int .i64 xp) ∧ W.cell? ⟨gw, pre.length * 4 + 1, none⟩ = some (.slice la xl.length lc) ∧ Own 0 W (.slice la xl.length lc) xl ∧ W.cell? ⟨Bw, 0, none⟩ = some (.slice (some ⟨gw, 0, none⟩) M.length wc) := by
  have hMe := h.eq
  have hkM : pre.length < M.length := by
    have h5 := hpx.length_le
    have h6 := congrArg List.length hMe
    simp only [rdL, List.map_append, List.length_append, List.length_map, List.map_cons, List.map_nil, List.length_cons, List.length_nil] at h5 h6
    omega
  have hx : (M[pre.length].2.pl, M[pre.length].2.lits) = (xp, xl) := by
    have h5 : ((pre ++ [((xp, xs, xl) : Itl)]).map Itl.proj)[pre.length]? = some (xp, xl) := by
      rw [List.getElem?_map, List.getElem?_append_right (Nat.le_refl _), Nat.sub_self]
      rfl
    have h6 := (List.prefix_iff_getElem?.1 hpx) pre.length (by simp)
    rw [← hMe, List.getElem?_map, List.getElem?_eq_getElem hkM] at h6
    have h7 := List.getElem?_eq_getElem (l := (pre ++ [((xp, xs, xl) : Itl)]).map Itl.proj) (i := pre.length) (by simp)
    rw [h5] at h7
    rw [← h7] at h6
    exact Option.some.inj h6
  injection hx with hx1 hx2
  have hxl : xl.length ≤ (flat S0).length := by
    have h5 : (xp, xl) ∈ rdL (lv 0 S0) := by
      have h6 : Itl.proj (xp, xs, xl) ∈ (pre ++ [((xp, xs, xl) : Itl)]).map Itl.proj := List.mem_map_of_mem (by simp)
      exact hpx.subset h6
    unfold rdL at h5
    obtain ⟨y, hy, e⟩ := List.mem_map.1 h5
    injection e with e1 e2
    rw [← e2]
    have hfj := lv_find hy
    rw [Int.sub_zero] at hfj
    exact lits_le hfj
  have hoM := (h.wl _ (List.getElem_mem hkM)).below hb
  rw [hx2] at hoM
  obtain ⟨la, lc, hla⟩ := own_form hoM
  rw [hla] at hoM
  refine ⟨hkM, Nat.le_trans hxl h.few, ?_⟩
  obtain ⟨B, hrow⟩ := h.wr
  rcases hrow.2 with ⟨e, e2⟩ | ⟨gw, cap, cur, e, hb', hh, r⟩
  · omega
  · injection e with e1 e2 e3
    have hc := World.ownsRow.cells (show w2.ownsRow B 43 4 (.slice (some ⟨gw, 0, none⟩) M.length wc) M.length (rowsM M) from by rw [← e1]; exact hrow) (g := gw) rfl
    obtain ⟨r0, r1, -, -⟩ := rowsM_at hkM
    have a0 := hc _ _ r0
    have a1 := hc _ _ r1
    rw [Addr.add_lit, Nat.zero_add] at a0 a1
    have hlt : gw < w2.heap.size := (Array.getElem?_eq_some_iff.1 hh).1
    have hlb : Bw < w2.heap.size := (Array.getElem?_eq_some_iff.1 h.wb).1
    refine ⟨gw, la, lc, e1, by rw [← hx1]; exact (hb.cell (p := ⟨gw, pre.length * 4, none⟩) hlt).trans a0, by rw [← hla]; exact (hb.cell (p := ⟨gw, pre.length * 4 + 1, none⟩) hlt).trans a1, hoM, ?_⟩
    have := (hb.block _ hlb).trans h.wb
    rw [← e1]
    simp [World.cell?, this]
end
/-- the state behind the second loop says so -/
theorem Wx.of {w wL w3 wc W : World} {Q : Nat → Prop} {D b m N g Bl lo : Nat} {v u : Value} {S S0 : List Seg} {M : List Mt} (h : Oz w wc W Q D b m N v S S0 g M) (hQ : Q = fun k => wL.heap.size ≤ k ∧ k < wc.heap.size) (ht : Wt w3 wc Bl M) (hl : w3.heap[Bl]? = some (.cells #[u] 69 (0, 0))) (hr : w3.ownsRow lo 73 2 u (lv 0 S0).length (rowsC g (lv 0 S0))) (h1 : wL.heap.size ≤ Bl) (h2 : wL.heap.size ≤ lo) (h3 : wL.heap.size ≤ w3.heap.size) (he : M.map (fun x => (x.2.pl, x.2.lits)) = rdL (lv 0 S0)) (hf : (flat S0).length ≤ 1099511627776) :
    ∃ za zc, Wx W Bl (w3.heap.size + 1) g lo u S0 M za zc ∧ W.heap[w3.heap.size]? = some (.cells #[.func (.func 28) #[] #[.pointer (some ⟨Bl, 0, none⟩)]] 39 (0, 0)) := by
  have hw := ht.bel.size
  have kq : ∀ k, wL.heap.size ≤ k → k < wc.heap.size → W.heap[k]? = wc.heap[k]? := fun k q1 q2 => (h.oq.kq k (by rw [hQ]; exact ⟨q1, q2⟩)).2
  have l3 : ∀ k, wL.heap.size ≤ k → k < w3.heap.size → W.heap[k]? = w3.heap[k]? := fun k q1 q2 => (kq k q1 (by omega)).trans (ht.bel.block k q2)
  obtain ⟨za, zc, hb, hrow⟩ := ht.ex
  have lb := (Array.getElem?_eq_some_iff.1 hb).1
  have ls := (Array.getElem?_eq_some_iff.1 ht.sb).1
  refine ⟨za, zc, ⟨(l3 _ h1 (Array.getElem?_eq_some_iff.1 hl).1).trans hl, ?_, ?_, (kq _ (by omega) lb).trans hb, ⟨_, row_kept4 hrow fun k e => kq k (by have := (World.ownsRow.lt hrow k e).1; omega) (World.ownsRow.lt hrow k e).2⟩, fun x hx => (h.lst x hx).1, he, hf⟩, (kq _ (by omega) ls).trans ht.sb⟩
  · exact row_kept4 hr fun k e => l3 k (by have := (World.ownsRow.lt hr k e).1; omega) (World.ownsRow.lt hr k e).2
  · rcases h.ol with e | ⟨ht, _, hc⟩
    · exact .inl e
    · refine .inr ⟨?_, hc⟩
      unfold tyB at ht
      cases hh : W.heap[g]? with
      | none => rw [hh] at ht; cases ht
      | some o => exact (Array.getElem?_eq_some_iff.1 hh).1
end Go.Proofs.Ytbhjpahieghepaa
