/-
  ArenaSpares: ranges over Live: the iterator's contract; what stays through them; append inside a round.
  KEEP: set on app at below new trans refl start ap kept rd rds mono own row cells lt box lo ml ms c0 f0 form max find eq ma some none more map keep mv c kill kst book drew alloc step block cell tys put came out other bx same size
-/
import Derived.Test.YtbhjpahieghepaaKAp4
import Derived.Test.YtbhjpahieghepaaAppK
import Derived.OwnWalkIn
import Derived.RangeFuncKeeps
set_option linter.unusedSimpArgs false
set_option linter.unusedVariables false
namespace Go.Proofs.Ytbhjpahieghepaa
open Go Go.RowKit Go.Maps Go.Shelf

theorem wpListIn_append_apk4 {F : Fence} {n : Nat} {P : Program} (w : World) {ops : Array Oper} {rest : List Oper} {o : Oper} {a : Act} {Q : Exit → Act → World → Prop}
    (hg : o.guard = none) (s x : Operand) (t : TypeId) (hop : o.op = Op.call { callee := Callee.builtin Builtin.append, args := #[s, x], argTypes := #[t, t] })
    (base : Nat) (e : TypeId) (i : TypeInfo) (z : Value) (size bytes : Nat) (h1 : P.underlying t = some (.slice e)) (h2 : P.info? e = some i) (h3 : i.zero = some z) (h4 : i.size = size) (h5 : i.bytes = bytes) (h6 : z.cells.size = size) (h7 : 0 < size)
    (v : Value) (k : Nat) (xs : List Value) (hs : a.eval s = v) (hown : w.ownsRow base e size v k xs) (ad : Addr) (m c : Nat) (news : List Value) (hx : a.eval x = .slice (some ad) m c) (hn : news.length = m * size)
    (hc : ∀ j u, news[j]? = some u → w.cell? (ad.add j) = some u) (h1c : ∀ u ∈ news, u.oneCell' = true) (b1 : k + m ≤ maxLen) (b2 : (k + m) * bytes ≤ 140737488355328) (b3 : base ≤ w.heap.size)
    (hK : ∀ v' w', w'.ownsRow base e size v' (k + m) (xs ++ news) → Ap w v w' v' → wpListIn F n P ops Q rest (a.put o.dst v') w') :
    wpListIn F n P ops Q (o :: rest) a w := by
  refine wpListIn_plain hg fun K hK' => ?_
  obtain ⟨v', w', hrun, r1, r2⟩ := run_append_apk (P := P) w base t o.type e i z size bytes h1 h2 h3 h4 h5 h6 h7 v k xs hown ad m c news hn hc h1c b1 b2 b3
  unfold Oper.wpIn
  refine ⟨?_, ?_⟩
  · simp [Oper.about, hop, resolve, Target.leads, Sem.run_pure]
  · rw [Oper.semAt_plain F _ _ (by rw [hop]; intro c hc'; cases hc')]
    simp [execOp, hop, resolve, invoke, builtin, hs, hx, hrun, Result.andThen]
    exact hK' _ _ (hK v' w' r1 r2)
/-- Live's iterator, as a range meets it -/
theorem live_seqW (n : Nat) (hn : 1 ≤ n) (B g lo : Nat) (u : Value) (L : List (Int × List Int × Bool)) (w : World) (Q : Nat → Prop) (hQB : Q B) (hQu : ∀ k, u.ownBlock = some k → Q k) (hQg : L ≠ [] → Q g) (hQ : ∀ k, Q k → k < w.heap.size) (hbx : w.heap[B]? = some (.cells #[u] 69 (0, 0))) (hrow : w.ownsRow lo 73 2 u L.length (rowsC g L))
    (hrd : ∀ k (hk : k < L.length), ∀ j, j < L[k].2.1.length → w.cell? ⟨g, L[k].1.toNat + 1 + j, none⟩ = some (.int .i64 (L[k].2.1.getD j 0))) (h8 : ∀ k (hk : k < L.length), L[k].2.1.length * 8 ≤ 140737488351232) (hLn : L.length ≤ 1099511627776) :
    SeqW Fence.wide n Try.prog 28 #[.pointer (some ⟨B, 0, none⟩)] (fun x : Itl => #[.int .i64 x.1, x.2.1]) (fun m => VL m (rdL L)) (Kq Q) (fun xs => xs.map Itl.proj = rdL L) (fun pre => pre.map Itl.proj <+: rdL L) w := fun l J Jx W hW hJ hJx hY h0 => by
  obtain ⟨ua, uc, hu⟩ := row_form2 hrow
  subst hu
  refine live_in n hn l B g uc ua Q L W J Jx hJ hY (fun k hk => Nat.lt_of_lt_of_le (hQ k hk) hW.size) hQB ((hW.block B hQB).trans hbx) (fun W' hW' k hk => ?_) (fun W' hW' k hk j hj => ?_) h8 hLn h0
  · rcases hrow.2 with ⟨e, e2⟩ | ⟨g0, cap, cur, e, hb, hh, r⟩
    · omega
    · injection e with e1 e2 e3
      subst e1
      have hc := World.ownsRow.cells hrow (g := g0) rfl
      obtain ⟨r1, r2⟩ := rowsC_at (g := g) hk
      have a1 := hc _ _ r1
      have a2 := hc _ _ r2
      rw [Addr.add_lit, Nat.zero_add] at a1 a2
      have hkp : W'.heap[g0]? = w.heap[g0]? := (hW'.block g0 (hQu g0 rfl)).trans (hW.block g0 (hQu g0 rfl))
      exact ⟨g0, rfl, by rw [← a1]; unfold World.cell?; rw [hkp], by rw [← a2]; unfold World.cell?; rw [hkp]⟩
  · have hne : L ≠ [] := fun e => by rw [e] at hk; simp at hk
    have hkp : W'.heap[g]? = w.heap[g]? := (hW'.block g (hQg hne)).trans (hW.block g (hQg hne))
    rw [← hrd k hk j hj]
    unfold World.cell?
    rw [hkp]
theorem VL_from (n₀ B : Nat) (R : List (Int × List Int)) (pre : List Itl) : OwnFrom B (VL n₀ R pre) := fun x W W' row h hg hr =>
  ⟨h.1, row_kept4 h.2 fun k e => hg.block k (World.ownsRow.lt h.2 k e).2 (fun q => by
    obtain ⟨-, o, ho, hc⟩ := hr k q.symm
    rcases h.2.2 with ⟨e2, _⟩ | ⟨g, cap, cur, e2, _, hh, _⟩
    · rw [e2] at e; cases e
    · rw [e2] at e
      simp [Value.ownBlock] at e
      subst e
      rw [hh] at ho
      cases ho
      cases hc)⟩
theorem ownFrom_mark4 {β : Type} {B D : Nat} {o : Obj} (hD : D < B) : OwnFrom B (fun (_ : β) W => W.heap[D]? = some o) := fun _ A _ row hs hg hr =>
  (hg.block D (Array.getElem?_eq_some_iff.1 hs).1 (fun e => by have := (hr D e.symm).1; omega)).trans hs
theorem cells_ne {W : World} {k r : Nat} {t : TypeId} {o : Obj} (h : tyB W k = some t) (ho : W.heap[r]? = some o) (hc : o.isCells = false) : k ≠ r := by
  rintro rfl
  unfold tyB at h
  rw [ho] at h
  cases o <;> simp at h hc
  cases hc
theorem Kq.putObj {Q : Nat → Prop} {w W : World} {l : Nat} {o' : Obj} (hl : w.heap.size ≤ l) (hQ : ∀ k, Q k → k < w.heap.size) : Kq Q W (W.putObj l o') :=
  ⟨by simp [World.putObj], fun k hk => World.putObj_heap_other (by have := hQ k hk; omega)⟩
theorem Kq.alloc {Q : Nat → Prop} {w W : World} (o : Obj) (h : Kq Q w W) (hQ : ∀ k, Q k → k < w.heap.size) : Kq Q w (W.alloc o) :=
  h.trans (Kq.of_below (below_box _ _) (fun k hk => Nat.lt_of_lt_of_le (hQ k hk) h.size))
section
variable {w0 W W' : World} {b : Nat} {v : Value} {S R : List Seg} {pv uv cv : Value} {U C : List Ls}
theorem Sq.tyG (h : Sq w0 W b v S R pv uv cv U C) : ∀ k, Gq4 b v pv uv cv U C k → ∃ t, tyB W k = some t := by
  obtain ⟨tb, tv, tp, tu, tc, tU, tC⟩ := h.tys
  rintro k (rfl | q | q | q | q | ⟨x, hx, q⟩ | ⟨x, hx, q⟩)
  · exact ⟨_, tb⟩
  · exact ⟨_, tv k q⟩
  · exact ⟨_, tp k q⟩
  · exact ⟨_, tu k q⟩
  · exact ⟨_, tc k q⟩
  · exact ⟨_, tU x hx k q⟩
  · exact ⟨_, tC x hx k q⟩
theorem Sq.from {B : Nat} (hB : w0.heap.size ≤ B) : OwnFrom B (fun (_ : Unit) W => Sq w0 W b v S R pv uv cv U C) := fun _ X Y row h hg hr =>
  h.keep ⟨hg.os.trans h.bel.os, hg.tape.trans h.bel.tape, hg.output.trans h.bel.output, Nat.le_trans h.bel.size hg.size, fun k hk => (hg.block k (Nat.lt_of_lt_of_le hk h.bel.size) (fun e => by have := (hr k e.symm).1; omega)).trans (h.bel.block k hk)⟩ fun k hk => hg.block k (h.lt k hk) (fun e => by
    obtain ⟨-, o, ho, hc⟩ := hr k e.symm
    obtain ⟨t, ht⟩ := h.tyG k hk
    exact cells_ne ht ho hc rfl)
/-- objects that are no cells stay, where a row grows and a box is written -/
theorem keeps_app {D : Nat} {av av' : Value} {w1 : World} {n : Nat} {xs : List Value} {e : TypeId} (hr : W.ownsRow 0 e 1 av n xs) (a1 : Ap W av w1 av') : KeepsOthers W (w1.setCell ⟨D, 0, none⟩ av') := by
  refine (KeepsOthers.of_grownBy a1.grown fun j o ej hj => ?_).trans (KeepsOthers.setCell _ _ _)
  have := tyB_row hr ej
  unfold tyB at this
  rw [hj] at this
  cases o <;> simp at this
  rfl
end
end Go.Proofs.Ytbhjpahieghepaa
