/-
  handed of the laws of layer 9, walked: the steps that a sequence gives, as they are handed over, lie apart.
  KEEP: next kpd drew cell frozen cg kp nb wb rb bel q pf same block size os tape output mono lt own new c f set of_grownBy setCell refl trans mb ob keep mq row ap len nil app grown below rdz form old
-/
import Derived.Test.YtilcokpaeapmeaaDoorJDrSYw
import Derived.Sort.CutIn
import Derived.Test.YtilcokpaeapmeaaDoorKQuietR
set_option linter.unusedSimpArgs false
set_option linter.unusedVariables false
namespace Go.Proofs.YtilcokpaeapmeaaDoor
open Go Go.RowKit Go.Shelf

attribute [local go_sem] Oper.semAt_some

def noPanicH (Q : Exit → Act → World → Prop) : Exit → Act → World → Prop
  | .panic _, _, _ => False
  | e, a, w => Q e a w
theorem calls_marksH {P : Program} {f : FuncId} {fn : Func} {c : Code} {args : Array Value} {w : World} {R : Ending → World → Prop} (n : Nat) (hf : P.funcs[f]? = some fn) (hb : fn.body = some c)
    (h : c.wp P (noPanicH (bodyPostM Fence.wide n P fn R)) { tmps := args ++ Array.replicate (fn.ntmps - args.size) undef, defers := [] } w) : Calls P f args w R :=
  callsIn_wide.1 (callsIn_of_wp_marks hf hb trivial (wpIn_wide.2 (wp_mono h (by intro e a w h; cases e <;> first | exact h | exact h.elim))))
theorem cell_ofH {W : World} {g : Nat} {x : Value} {t : TypeId} (h : W.heap[g]? = some (.cells #[x] t (0, 0))) : W.cell? ⟨g, 0, none⟩ = some x := by unfold World.cell?; dsimp only; rw [h]; rfl
theorem frozen_ofH {W : World} {g : Nat} {x : Value} {t : TypeId} (h : W.heap[g]? = some (.cells #[x] t (0, 0))) : W.frozen? ⟨g, 0, none⟩ = false := by simp [World.frozen?, h]
theorem pre_ltH {pre : List SV} {x : SV} {FS : List Stp} (h : svS (pre ++ [x]) <+: FS) : pre.length < FS.length := by
  obtain ⟨r, hr⟩ := h
  rw [← hr]; simp [svS_len]; omega
theorem row_keptH {B e s n : Nat} {W W' : World} {v : Value} {xs : List Value} (h : W.ownsRow B e s v n xs) (hk : ∀ k, some k = v.ownBlock → W'.heap[k]? = W.heap[k]?) : W'.ownsRow B e s v n xs := by
  refine ⟨h.1, ?_⟩
  rcases h.2 with hn | ⟨g, cap, cur, hv, hb, hg, r⟩
  · exact .inl hn
  · exact .inr ⟨g, cap, cur, hv, hb, (hk g (by rw [hv]; rfl)).trans hg, r⟩
theorem row_cellsH {B e s n : Nat} {W : World} {v : Value} {xs : List Value} (h : W.ownsRow B e s v n xs) : ∀ (j : Nat) (o : Obj), v.ownBlock = some j → W.heap[j]? = some o → o.isCells = true := fun j o ej hj => by
  rcases h.2 with ⟨rfl, _⟩ | ⟨g, cap, cur, rfl, _, hgb, _⟩
  · cases ej
  · cases ej
    rw [hgb] at hj
    cases hj
    rfl
theorem row_formH {w : World} {base e size n : Nat} {v : Value} {xs : List Value} (h : w.ownsRow base e size v n xs) : ∃ a cap, v = .slice a n cap := by
  rcases h.2 with ⟨rfl, hn⟩ | ⟨g, cap, cur, rfl, _⟩
  · exact ⟨none, 0, by rw [hn]⟩
  · exact ⟨_, cap, rfl⟩
/-- the blocks of a row of steps -/
def OwB (u : Value) (L : List SV) (k : Nat) : Prop := some k = u.ownBlock ∨ ∃ x ∈ L, some k = x.2.1.ownBlock
theorem OwnZ.keepB {B : Nat} {W W' : World} {s : Value} {L : List SV} (h : OwnZ B W s L) (hk : ∀ k, OwB s L k → W'.heap[k]? = W.heap[k]?) : OwnZ B W' s L :=
  ⟨row_keptH h.row fun k e => hk k (.inl e), fun x hx => row_keptH (h.own x hx) fun k e => hk k (.inr ⟨x, hx, e⟩), h.ap⟩
theorem OwnZ.ltB {B : Nat} {W : World} {s : Value} {L : List SV} (h : OwnZ B W s L) {k : Nat} (hk : OwB s L k) : B ≤ k ∧ k < W.heap.size := by
  rcases hk with e | ⟨x, hx, e⟩
  · exact h.row.lt k e.symm
  · exact (h.own x hx).lt k e.symm
theorem OwnZ.cellsB {B : Nat} {W : World} {s : Value} {L : List SV} (h : OwnZ B W s L) {k : Nat} (hk : OwB s L k) {o : Obj} (ho : W.heap[k]? = some o) : o.isCells = true := by
  rcases hk with e | ⟨x, hx, e⟩
  · exact row_cellsH h.row k o e.symm ho
  · exact row_cellsH (h.own x hx) k o e.symm ho
/-- what handed holds between two rounds -/
structure HdI (w : World) (n : Nat) (Qs : Nat → Prop) (pre : List SV) (W : World) : Prop where
  mb : W.heap[w.heap.size]? = some (.cells #[.int .i64 (n : Nat)] 3 (0, 0))
  rb : W.heap[w.heap.size + 1]? = some (.cells #[.slice none 0 0] 22 (0, 0))
  ob : ∃ u, W.heap[w.heap.size + 2]? = some (.cells #[u] 22 (0, 0)) ∧ OwnZ (w.heap.size + 3) W u pre ∧ ∀ k, Qs k → ¬ OwB u pre k
  bel : Below w.heap.size w W
  q : ∀ k, Qs k → w.heap.size + 3 ≤ k
theorem HdI.size {w : World} {n : Nat} {Qs : Nat → Prop} {pre : List SV} {W : World} (h : HdI w n Qs pre W) : w.heap.size + 3 ≤ W.heap.size := by
  obtain ⟨u, h1, -⟩ := h.ob
  exact (Array.getElem?_eq_some_iff.1 h1).1
theorem HdI.keep {w : World} {n : Nat} {Qs Q' Z : Nat → Prop} {pre : List SV} {A B : World} (h : HdI w n Qs pre A) (hk : ∀ k, k < A.heap.size → ¬ Z k → B.heap[k]? = A.heap[k]?) (hz : ∀ k, Z k → w.heap.size + 3 ≤ k) (hz2 : ∀ k u, A.heap[w.heap.size + 2]? = some (.cells #[u] 22 (0, 0)) → OwnZ (w.heap.size + 3) A u pre → (∀ k, Qs k → ¬ OwB u pre k) → Z k → ¬ OwB u pre k)
    (hs : A.heap.size ≤ B.heap.size) (h1 : B.os = A.os) (h2 : B.tape = A.tape) (h3 : B.output = A.output) (hq : ∀ k, Q' k → Qs k ∨ A.heap.size ≤ k) : HdI w n Q' pre B := by
  have sz := h.size
  have hl : ∀ k, k < w.heap.size + 3 → B.heap[k]? = A.heap[k]? := fun k hk' => hk k (by omega) (fun hh => by have := hz k hh; omega)
  obtain ⟨u, o1, o2, o3⟩ := h.ob
  refine ⟨(hl _ (by omega)).trans h.mb, (hl _ (by omega)).trans h.rb, ⟨u, (hl _ (by omega)).trans o1, o2.keepB fun k e => hk k (o2.ltB e).2 (fun hh => hz2 k u o1 o2 o3 hh e), fun k hk' e => ?_⟩, ⟨h1.trans h.bel.os, h2.trans h.bel.tape, h3.trans h.bel.output, Nat.le_trans h.bel.size hs, fun k hk' => (hl k (by omega)).trans (h.bel.block k hk')⟩, fun k hk' => ?_⟩
  · rcases hq k hk' with q | q
    · exact o3 k q e
    · have := (o2.ltB e).2; omega
  · rcases hq k hk' with q | q
    · exact h.q k q
    · omega
theorem HdI.mq {w : World} {n : Nat} {Qs Q' : Nat → Prop} {pre : List SV} {A B : World} (h : HdI w n Qs pre A) (hm : Mq A Qs B Q') : HdI w n Q' pre B :=
  h.keep (Z := Qs) hm.block h.q (fun k u _ _ o3 hh => o3 k hh) hm.size hm.os hm.tape hm.output hm.new
theorem HdI.from {w : World} {n : Nat} {Qs : Nat → Prop} {pre : List SV} {A B : World} {row : Option Nat} (h : HdI w n Qs pre A) (hg : A.grownBy B row) (hr : ∀ r, row = some r → w.heap.size + 3 ≤ r ∧ ∃ o : Obj, A.heap[r]? = some o ∧ o.isCells = false) : HdI w n Qs pre B :=
  h.keep (Z := fun k => row = some k) (fun k hk hh => hg.block k hk (fun e => hh e.symm)) (fun k hh => (hr k hh).1) (fun k u _ o2 _ hh e => by
    obtain ⟨_, o, ho, hc⟩ := hr k hh
    rw [o2.cellsB e ho] at hc; cases hc) hg.size hg.os hg.tape hg.output (fun k hk => .inl hk)
/-- one step more -/
theorem HdI.next {w : World} {n : Nat} {Qs : Nat → Prop} {pre : List SV} {x : SV} {W W1 : World} {u u' : Value} {S0 : Nat} (h : HdI w n Qs pre W) (hu : W.heap[w.heap.size + 2]? = some (.cells #[u] 22 (0, 0))) (hx : Own S0 W x.2.1 x.2.2) (hS : w.heap.size + 3 ≤ S0)
    (hnew : ∃ A Qa, HdI w n Qa pre A ∧ A.heap.size ≤ S0) (hxq : ∀ k, some k = x.2.1.ownBlock → ¬ Qs k) (hqW : ∀ k, Qs k → k < W.heap.size) (o : Obj)
    (own' : W1.ownsRow (w.heap.size + 3) 61 2 u' (pre.length + 1) (svC pre ++ [.bool x.1, x.2.1])) (ha : Ap (W.alloc o) u W1 u') :
    W1.cell? ⟨w.heap.size + 2, 0, none⟩ = some u ∧ W1.frozen? ⟨w.heap.size + 2, 0, none⟩ = false ∧ HdI w n Qs (pre ++ [x]) (W1.setCell ⟨w.heap.size + 2, 0, none⟩ u') ∧ KeepsOthers W (W1.setCell ⟨w.heap.size + 2, 0, none⟩ u') ∧ KpD Qs W (W1.setCell ⟨w.heap.size + 2, 0, none⟩ u') := by
  obtain ⟨u9, e9, o2, o3⟩ := h.ob
  rw [hu] at e9
  have e10 : u = u9 := by injection e9 with e9; injection e9 with e9 _ _; injection e9 with e9; injection e9 with e9
  subst e10
  have sz := h.size
  have hal : W.grownBy (W.alloc o) none := World.grownBy_alloc W o none
  have hub : ∀ g, u.ownBlock = some g → w.heap.size + 3 ≤ g ∧ g < W.heap.size := fun g e => o2.ltB (.inl e.symm)
  have keep : ∀ k, k < W.heap.size → some k ≠ u.ownBlock → W1.heap[k]? = W.heap[k]? := fun k hk hne => (ha.grown.block k (Nat.lt_of_lt_of_le hk hal.size) hne).trans (hal.block k hk (by simp))
  have ky : ∀ k, k < w.heap.size + 3 → W1.heap[k]? = W.heap[k]? := fun k hk => keep k (by omega) (fun e => by have := (hub k e.symm).1; omega)
  have hu1 := (ky _ (by omega)).trans hu
  have kset : ∀ k, k ≠ w.heap.size + 2 → (W1.setCell ⟨w.heap.size + 2, 0, none⟩ u').heap[k]? = W1.heap[k]? := fun k hk => Below.heap_setCell _ _ _ _ hk
  have hrow : (W.alloc o).ownsRow (w.heap.size + 3) 61 2 u pre.length (svC pre) := World.ownsRow.alloc o2.row o
  have hap : ApartC ((pre ++ [x]).map Prod.snd) := by
    obtain ⟨A, Qa, hA, hAS⟩ := hnew
    obtain ⟨ua, _, a2, _⟩ := hA.ob
    rw [List.map_append]
    exact ApartC.snoc o2.ap (fun c hc => by obtain ⟨y, hy, rfl⟩ := List.mem_map.1 hc; exact a2.own y hy) hx hAS
  have hZ : OwnZ (w.heap.size + 3) W1 u' (pre ++ [x]) := o2.app hal own' ha.grown (hx.mono hS) hap
  have hlt2 : ∀ k, OwB u' (pre ++ [x]) k → k ≠ w.heap.size + 2 := fun k e => by have := (hZ.ltB e).1; omega
  have szs : (W1.setCell ⟨w.heap.size + 2, 0, none⟩ u').heap.size = W1.heap.size := World.size_setCell _ _ _
  have s1 : W.heap.size ≤ W1.heap.size := Nat.le_trans hal.size ha.grown.size
  refine ⟨cell_ofH hu1, frozen_ofH hu1, ⟨(kset _ (by omega)).trans ((ky _ (by omega)).trans h.mb), (kset _ (by omega)).trans ((ky _ (by omega)).trans h.rb), ⟨u', ?_, hZ.keepB fun k e => kset k (hlt2 k e), fun k hk e => ?_⟩, ?_, h.q⟩, ?_, ⟨fun k hk => ?_, by rw [szs]; exact s1⟩⟩
  · have := Joins.block_setCell (i := 0) hu1 u'
    simpa using this
  · rcases e with e | ⟨y, hy, e⟩
    · rcases ha.new with q | q
      · rw [q] at e; exact o3 k hk (.inl e)
      · have h5 := q k e.symm
        have h6 := hal.size
        have h7 := hqW k hk
        omega
    · rcases List.mem_append.1 hy with hy | hy
      · exact o3 k hk (.inr ⟨y, hy, e⟩)
      · rw [List.mem_singleton.1 hy] at e
        exact hxq k e hk
  · have b1 : Below w.heap.size w W1 := ⟨ha.grown.os.trans h.bel.os, ha.grown.tape.trans h.bel.tape, ha.grown.output.trans h.bel.output, Nat.le_trans h.bel.size s1, fun k hk => (ky k (by omega)).trans (h.bel.block k hk)⟩
    exact b1.setCell (p := ⟨w.heap.size + 2, 0, none⟩) (by show w.heap.size ≤ w.heap.size + 2; omega) _
  · refine ((KeepsOthers.of_grownBy hal (fun _ _ e _ => by cases e)).trans (KeepsOthers.of_grownBy ha.grown (row_cellsH hrow))).trans (KeepsOthers.setCell _ _ _)
  · have h9 := h.q k hk
    exact (kset k (by omega)).trans (keep k (hqW k hk) (fun e => o3 k hk (.inl e)))
theorem wpListIn_append_apkh {F : Fence} {n : Nat} {P : Program} (w : World) {ops : Array Oper} {rest : List Oper} {o : Oper} {a : Act} {Q : Exit → Act → World → Prop}
    (hg : o.guard = none) (s x : Operand) (t : TypeId) (hop : o.op = Op.call { callee := Callee.builtin Builtin.append, args := #[s, x], argTypes := #[t, t] })
    (base : Nat) (e : TypeId) (i : TypeInfo) (z : Value) (size bytes : Nat) (h1 : P.underlying t = some (.slice e)) (h2 : P.info? e = some i) (h3 : i.zero = some z) (h4 : i.size = size) (h5 : i.bytes = bytes) (h6 : z.cells.size = size) (h7 : 0 < size)
    (v : Value) (k : Nat) (xs : List Value) (hs : a.eval s = v) (hown : w.ownsRow base e size v k xs) (ad : Addr) (m c : Nat) (news : List Value) (hx : a.eval x = .slice (some ad) m c) (hn : news.length = m * size)
    (hc : ∀ j u, news[j]? = some u → w.cell? (ad.add j) = some u) (h1c : ∀ u ∈ news, u.oneCell' = true) (b1 : k + m ≤ maxLen) (b2 : (k + m) * bytes ≤ 140737488355328) (b3 : base ≤ w.heap.size)
    (hK : ∀ v' w', w'.ownsRow base e size v' (k + m) (xs ++ news) → Ap w v w' v' → wpListIn F n P ops Q rest (a.put o.dst v') w') :
    wpListIn F n P ops Q (o :: rest) a w := by
  refine wpListIn_plain hg fun K hK' => ?_
  obtain ⟨v', w', hrun, r1, r2⟩ := run_append_apk (P := P) w base t o.type e i z size bytes h1 h2 h3 h4 h5 h6 h7 v k xs hown ad m c news hn hc h1c b1 b2 b3
  unfold Oper.wpIn
  refine ⟨?_, ?_⟩
  · simp [Oper.about, hop, resolve, Target.leads, Sem.run_pure]
  · rw [Oper.semAt_plain F _ _ (by rw [hop]; intro c hc'; cases hc')]
    simp [execOp, hop, resolve, invoke, builtin, hs, hx, hrun, Result.andThen]
    exact hK' _ _ (hK v' w' r1 r2)
set_option maxRecDepth 100000 in
set_option maxHeartbeats 6400000 in
theorem handed_any (s : ByteArray) (Bs : Nat) (FS : List Stp) (w : World) (hFS : FS = (parD s.data.toList).1) (hb : w.cell? ⟨Bs, 0, none⟩ = some (.string s)) (hs : s.size ≤ 1099511627776) (hl : FS.length ≤ 1099511627776) (he : Env w) :
    Calls Tryd.prog 14 #[.func (.func 40) #[] #[.pointer (some ⟨Bs, 0, none⟩)], .int .i64 FS.length] w fun e w' => ∃ u, e = .returned u ∧ OwnS w.heap.size w' u FS ∧ Below w.heap.size w w' := by
  have HE : Hid (Env w) := he
  have HFS : Hid (FS = (parD s.data.toList).1) := hFS
  have hBs : Bs < w.heap.size := World.block_lt_of_cell? w _ hb
  obtain ⟨iz, hiz, hz0, hz1, hz2⟩ := info_parts infoZ
  have HIz : Hid (Tryd.prog.info? 61 = some iz ∧ iz.zero = some (.agg #[.bool false, .slice none 0 0]) ∧ iz.size = 2 ∧ iz.bytes = 32) := ⟨hiz, hz0, hz1, hz2⟩
  clear he hFS hiz hz0 hz1 hz2
  refine calls_marksH 12 Tryd.func14 rfl ?_
  simp only [Tryd.ntmps14, List.size_toArray, List.length_cons, List.length_nil, Nat.reduceAdd, Nat.reduceSub, Array.replicate_succ, Array.replicate_zero, List.push_toArray, List.append_toArray, List.nil_append, List.cons_append]
  go_wp2
  have h0 : HdI w FS.length (fun _ => False) [] (((w.alloc (.cells #[.int .i64 FS.length] 3)).alloc (.cells #[.slice none 0 0] 22)).alloc (.cells #[.slice none 0 0] 22)) := by
    refine ⟨?_, ?_, ⟨.slice none 0 0, ?_, OwnZ.nil _ _, fun k hk => hk.elim⟩, Below.step (Below.step (below_box _ _) (below_box _ _)) (below_box _ _), fun k hk => hk.elim⟩
    · exact (Below.heap_alloc _ _ _ (by simp; omega)).trans ((Below.heap_alloc _ _ _ (by simp)).trans (World.alloc_heap_new w _))
    · have := World.alloc_heap_new (w.alloc (.cells #[.int .i64 FS.length] 3)) (.cells #[.slice none 0 0] 22)
      rw [World.size_alloc] at this
      exact (Below.heap_alloc _ _ _ (by simp)).trans this
    · have := World.alloc_heap_new ((w.alloc (.cells #[.int .i64 FS.length] 3)).alloc (.cells #[.slice none 0 0] 22)) (.cells #[.slice none 0 0] 22)
      simp only [World.size_alloc] at this
      exact this
  have sz0 : (((w.alloc (.cells #[.int .i64 FS.length] 3)).alloc (.cells #[.slice none 0 0] 22)).alloc (.cells #[.slice none 0 0] 22)).heap.size = w.heap.size + 3 := by simp
  generalize (((w.alloc (.cells #[.int .i64 FS.length] 3)).alloc (.cells #[.slice none 0 0] 22)).alloc (.cells #[.slice none 0 0] 22)) = W0 at *
  have hb0 : W0.cell? ⟨Bs, 0, none⟩ = some (.string s) := (h0.bel.cell (p := ⟨Bs, 0, none⟩) hBs).trans hb
  refine (wpIn_wide (n := 12)).1 ?_
  refine' wpIn_rangeD (by omega) (Bs := Bs) (s := s) (FS := FS) rfl hb0 hs HFS.out rfl
    (HdI w FS.length) (fun c pre W => False)
    (fun Q s A B row hs hg hr => hs.from hg (fun r e => ⟨by have := (hr r e).1; omega, (hr r e).2⟩))
    (fun Q Q' s A B hs hm => hs.mq hm)
    (fun c s A B row hs hg hr => hs)
    (fun Q s A hs => HE.out.below hs.bel)
    h0
    (fun x Bx => { tmps := #[.func (.func 40) #[] #[.pointer (some ⟨Bs, 0, none⟩)], .int .i64 FS.length, undef, .pointer (some ⟨w.heap.size, 0, none⟩), .pointer (some ⟨w.heap.size + 1, 0, none⟩), .pointer (some ⟨w.heap.size + 1 + 1, 0, none⟩), .pointer (some ⟨Bx, 0, none⟩), .func (.func 40) #[] #[.pointer (some ⟨Bs, 0, none⟩)], .agg #[.bool x.1, x.2.1], undef, undef, undef, undef, undef, undef, undef, undef, undef, undef], defers := [] }) ?assign ?body ?done ?stop
  case assign =>
    rintro l ⟨xd, xv, xl⟩ W K ⟨aa, cc, hx⟩ hK
    dsimp only at hx hK ⊢
    subst hx
    gi_wp2
    exact hK
  case body =>
    rintro l Qs pre ⟨xd, xv, xl⟩ S0 Bx W hI hq hpf hS0 hS0B hown hnew hxq hxl hbx
    dsimp only at hown hnew hxq hxl hbx ⊢
    have hlt := pre_ltH hpf
    have hsz := hI.size
    obtain ⟨u, hu, hz, hzq⟩ := hI.ob
    obtain ⟨av, cv, rfl⟩ := own_form hown
    obtain ⟨au, cu, rfl⟩ : ∃ au cu, u = .slice au pre.length cu := by
      rcases hz.row.2 with ⟨e, hn⟩ | ⟨g, cap, cur, e, _⟩
      · exact ⟨none, 0, by rw [e, hn]⟩
      · exact ⟨_, cap, e⟩
    have g2 := cell_ofH hu
    have gm := cell_ofH hI.mb
    have x0 := hbx.c0
    have x1 := hbx.c1
    have hpl : pre.length ≤ 1099511627776 := by omega
    have HR : Hid ((W.alloc (.cells #[.bool xd, .slice av xl.length cv] 61)).ownsRow (w.heap.size + 3) 61 2 (.slice au pre.length cu) pre.length (svC pre)) := World.ownsRow.alloc hz.row _
    have HNw : Hid (∀ j y, [Value.bool xd, .slice av xl.length cv][j]? = some y → (W.alloc (.cells #[.bool xd, .slice av xl.length cv] 61)).cell? ((⟨W.heap.size, 0, none⟩ : Addr).add j) = some y) := cell_two_new9 W _ _ _
    have HS : Hid (w.heap.size + 3 ≤ (W.alloc (.cells #[.bool xd, .slice av xl.length cv] 61)).heap.size) := Nat.le_trans hsz (below_box W _).size
    have HNx : Hid (∀ W1 u', W1.ownsRow (w.heap.size + 3) 61 2 u' (pre.length + 1) (svC pre ++ [.bool xd, .slice av xl.length cv]) → Ap (W.alloc (.cells #[.bool xd, .slice av xl.length cv] 61)) (.slice au pre.length cu) W1 u' → W1.cell? ⟨w.heap.size + 2, 0, none⟩ = some (.slice au pre.length cu) ∧ W1.frozen? ⟨w.heap.size + 2, 0, none⟩ = false ∧ HdI w FS.length Qs (pre ++ [(xd, .slice av xl.length cv, xl)]) (W1.setCell ⟨w.heap.size + 2, 0, none⟩ u') ∧ KeepsOthers W (W1.setCell ⟨w.heap.size + 2, 0, none⟩ u') ∧ KpD Qs W (W1.setCell ⟨w.heap.size + 2, 0, none⟩ u')) := fun W1 u' ho ha =>
      hI.next (x := (xd, .slice av xl.length cv, xl)) hu hown (by omega) hnew hxq (fun k hk => by have h1 := (hq k hk).2; have h2 := hbx.lt; omega) _ ho ha
    have hl63 : pre.length + 1 ≤ maxLen := by unfold maxLen; omega
    have hl48 : (pre.length + 1) * 32 ≤ 140737488355328 := by omega
    have hpf' : decide ((pre.length : Int) = (FS.length : Int)) = false := decide_eq_false (by omega)
    have hpf2 : ((pre.length : Int) == (FS.length : Int)) = false := by simp; omega
    clear hu hz hzq hown hnew hxq hbx hI hpf hq h0 hb0
    gi_wp2_with (gi_at_builtin; refine wpListIn_append_apkh _ rfl _ _ 22 rfl (w.heap.size + 3) 61 iz (.agg #[.bool false, .slice none 0 0]) 2 32 Tryd.underlying22 HIz.out.1 HIz.out.2.1 HIz.out.2.2.1 HIz.out.2.2.2 rfl (by decide) (.slice au pre.length cu) pre.length (svC pre) rfl HR.out ⟨W.heap.size, 0, none⟩ 1 1 [.bool xd, .slice av xl.length cv] rfl rfl HNw.out (by simp [Value.oneCell']) hl63 hl48 HS.out ?_; intro v5 w5 own5 ap5; obtain ⟨a5, c5, hv5⟩ := row_formH own5; subst hv5; have K5 := HNx.out w5 _ own5 ap5; have q1 := K5.1; have q2 := K5.2.1; have F5 : Hid (HdI w FS.length Qs (pre ++ [(xd, .slice av xl.length cv, xl)]) (w5.setCell ⟨w.heap.size + 2, 0, none⟩ (.slice a5 (pre.length + 1) c5)) ∧ KeepsOthers W (w5.setCell ⟨w.heap.size + 2, 0, none⟩ (.slice a5 (pre.length + 1) c5)) ∧ KpD Qs W (w5.setCell ⟨w.heap.size + 2, 0, none⟩ (.slice a5 (pre.length + 1) c5))) := K5.2.2; clear K5 own5 ap5)
    exact ⟨F5.out.2.1, F5.out.2.2, F5.out.1⟩
  case done =>
    rintro D Qs ys W hD hS hI hK
    obtain ⟨u, hu, hz, hzq⟩ := hI.ob
    obtain ⟨au, cu, rfl⟩ : ∃ au cu, u = .slice au ys.length cu := by
      rcases hz.row.2 with ⟨e, hn⟩ | ⟨g, cap, cur, e, _⟩
      · exact ⟨none, 0, by rw [e, hn]⟩
      · exact ⟨_, cap, e⟩
    have g2 := cell_ofH hu
    have g3 := cell_ofH hI.rb
    have g4 := frozen_ofH hI.rb
    have hB := hI.bel
    have hDb : w.heap.size + 3 ≤ D := by omega
    have hZ : OwnZ (w.heap.size + 3) (W.setCell ⟨w.heap.size + 1, 0, none⟩ (.slice au ys.length cu)) (.slice au ys.length cu) ys := hz.keepB fun k e => Below.heap_setCell _ _ _ _ (by have := (hz.ltB e).1; show k ≠ w.heap.size + 1; omega)
    have hDc : ∀ k, OwB (.slice au ys.length cu) ys k → k ≠ D := fun k e e' => by
      have := hz.cellsB e (o := .deferred (some [])) (by rw [e']; exact hK)
      cases this
    clear hI h0 hb0
    go_wp2
    have k4 := World.cell?_setCell_same' W ⟨w.heap.size + 1, 0, none⟩ (.slice au ys.length cu) (by rw [g3]; rfl)
    have hK' := (KeepsOthers.setCell W ⟨w.heap.size + 1, 0, none⟩ (.slice au ys.length cu)).same D _ hK rfl
    refine ⟨by simp, .inl ⟨_, _, rfl, run_takeDeferred hK', ?_⟩⟩
    have gp := grownBy_putObj' (W.setCell ⟨w.heap.size + 1, 0, none⟩ (.slice au ys.length cu)) D (.deferred none)
    have bb : RowKit.Below w.heap.size w (W.setCell ⟨w.heap.size + 1, 0, none⟩ (.slice au ys.length cu)) := hB.setCell (p := ⟨w.heap.size + 1, 0, none⟩) (by show w.heap.size ≤ w.heap.size + 1; omega) _
    have hwl : w.heap.size + 1 < (W.setCell ⟨w.heap.size + 1, 0, none⟩ (.slice au ys.length cu)).heap.size := World.block_lt_of_cell? _ _ k4
    have k5 := (World.cell?_of_block (a := ⟨w.heap.size + 1, 0, none⟩) (gp.block (w.heap.size + 1) hwl (by simp; omega))).trans k4
    have hZ2 : OwnZ (w.heap.size + 3) ((W.setCell ⟨w.heap.size + 1, 0, none⟩ (.slice au ys.length cu)).putObj D (.deferred none)) (.slice au ys.length cu) ys := hZ.keepB fun k e => gp.block k (hZ.ltB e).2 (by have := hDc k e; simpa using this)
    refine ⟨.slice au ys.length cu, by simp [results, Tryd.f14, go_sem, k5], ⟨.slice au ys.length cu, rfl, ⟨ys, hZ2.mono (by omega), hS⟩, ⟨gp.os.trans bb.os, gp.tape.trans bb.tape, gp.output.trans bb.output, Nat.le_trans bb.size gp.size, fun k hk => (gp.block k (by have := bb.size; omega) (by simp; omega)).trans (bb.block k hk)⟩⟩⟩
  case stop =>
    rintro D c pre W hD hSp h hK
    exact h.elim

end Go.Proofs.YtilcokpaeapmeaaDoor
