/-
  rows of lists that lie apart from a pair of trails.
  KEEP: set on app at below new trans refl start ap kept rd rds mono row push put step side drew drewN mark weaken less store slice place cell lt prefix setOther own
-/
import Derived.Test.YtjcgfigbbbefcaaTrV
set_option linter.unusedSimpArgs false
set_option linter.unusedVariables false
namespace Go.Proofs.Ytjcgfigbbbefcaa
open Go Go.RowKit

theorem wpList_append_apk {P : Program} {w : World} {ops : Array Oper} {rest : List Oper} {o : Oper} {a : Act} {Q : Exit → Act → World → Prop} (hgd : o.guard = none) (s x : Operand) (t : TypeId)
    (hop : o.op = .call { callee := .builtin .append, args := #[s, x], argTypes := #[t, t] })
    (base : Nat) (e : TypeId) (i : TypeInfo) (z : Value) (size bytes : Nat) (h1 : P.underlying t = some (.slice e)) (h2 : P.info? e = some i) (h3 : i.zero = some z) (h4 : i.size = size) (h5 : i.bytes = bytes) (h6 : z.cells.size = size) (h7 : 0 < size)
    (v : Value) (n : Nat) (xs : List Value) (hs : a.eval s = v) (hown : w.ownsRow base e size v n xs)
    (ad : Addr) (m c : Nat) (news : List Value) (hx : a.eval x = .slice (some ad) m c) (hn : news.length = m * size) (hc : ∀ j u, news[j]? = some u → w.cell? (ad.add j) = some u) (h1c : ∀ u ∈ news, u.oneCell' = true)
    (b1 : n + m ≤ maxLen) (b2 : (n + m) * bytes ≤ 140737488355328) (hbase : base ≤ w.heap.size)
    (h : ∀ v' w', w'.ownsRow base e size v' (n + m) (xs ++ news) → Ap w v w' v' → wpList P ops Q rest (a.put o.dst v') w') :
    wpList P ops Q (o :: rest) a w := by
  refine wpList_plain hgd fun K hK => ?_
  obtain ⟨v', w', hrun, r1, r2⟩ := run_append_apk (P := P) w base t o.type e i z size bytes h1 h2 h3 h4 h5 h6 h7 v n xs hown ad m c news hn hc h1c b1 b2 hbase
  unfold Oper.wp execOp
  simp only [hop, resolve, invoke, builtin, Sem.run_bind, Sem.run_pure, Result.andThen_ok, List.map_toArray, List.map_cons, List.map_nil, hs, hx, hrun]
  exact hK _ _ (h v' w' r1 r2)
/-- a list that lies outside of a set of blocks -/
structure Lx (B : Nat) (W : World) (P : Nat → Prop) (c : Cls) : Prop where
  own : Own B W c.1 c.2
  xp : ∀ k, some k = c.1.ownBlock → ¬ P k
  len : c.2.length ≤ 1048576
/-- a row of such -/
structure Rl (B : Nat) (W : World) (P : Nat → Prop) (v : Value) (L : List Cls) : Prop where
  row : W.ownsRow B 36 1 v L.length (L.map Prod.fst)
  ls : ∀ c ∈ L, Lx B W P c
  xp : ∀ k, some k = v.ownBlock → ¬ P k
section
variable {B : Nat} {W W' : World} {P P' : Nat → Prop} {v v' : Value} {L N : List Cls} {c : Cls}
theorem Lx.keep (h : Lx B W P c) (hk : ∀ k, some k = c.1.ownBlock → W'.heap[k]? = W.heap[k]?) : Lx B W' P c := ⟨row_kept h.own hk, h.xp, h.len⟩
theorem Lx.below (h : Lx B W P c) (hb : Below W.heap.size W W') : Lx B W' P c := h.keep fun k hk => hb.block k (h.own.lt k hk.symm).2
theorem Lx.mg (h : Lx B W P c) (hm : Mg W P W' P') : Lx B W' P' c := ⟨row_kept h.own fun k hk => hm.block k (h.own.lt k hk.symm).2 (h.xp k hk), fun k hk hp => by
  rcases hm.new k hp with h1 | h1
  · exact h.xp k hk h1
  · have := (h.own.lt k hk.symm).2; omega, h.len⟩
theorem Lx.mono {B' : Nat} (h : Lx B W P c) (hb : B' ≤ B) : Lx B' W P c := ⟨h.own.mono hb, h.xp, h.len⟩
theorem Rl.below (h : Rl B W P v L) (hb : Below W.heap.size W W') : Rl B W' P v L := ⟨row_kept h.row fun k hk => hb.block k (h.row.lt k hk.symm).2, fun c hc => (h.ls c hc).below hb, h.xp⟩
theorem Rl.mg (h : Rl B W P v L) (hm : Mg W P W' P') : Rl B W' P' v L := ⟨row_kept h.row fun k hk => hm.block k (h.row.lt k hk.symm).2 (h.xp k hk), fun c hc => (h.ls c hc).mg hm, fun k hk hp => by
  rcases hm.new k hp with h1 | h1
  · exact h.xp k hk h1
  · have := (h.row.lt k hk.symm).2; omega⟩
/-- a list is left as it was by an append onto a row of lists -/
theorem Lx.grown {o : Value} {B2 n2 : Nat} {xs : List Value} (h : Lx B W P c) (ho : W.ownsRow B2 36 1 o n2 xs) (hg : W.grownBy W' o.ownBlock) : Lx B W' P c := ⟨row_apart (by decide) h.own ho hg, h.xp, h.len⟩
theorem Rl.app (h : Rl B W P v L) (hN : ∀ c ∈ N, Lx B W P c) (hP : ∀ k, P k → k < W.heap.size) (own' : W'.ownsRow B 36 1 v' (L.length + N.length) (L.map Prod.fst ++ N.map Prod.fst)) (ap : Ap W v W' v') : Rl B W' P v' (L ++ N) := by
  refine ⟨by rw [List.length_append, List.map_append]; exact own', fun c hc => ?_, fun k hk hp => ?_⟩
  · rcases List.mem_append.1 hc with h1 | h1
    · exact (h.ls c h1).grown h.row ap.grown
    · exact (hN c h1).grown h.row ap.grown
  · rcases ap.new with e | e
    · exact h.xp k (by rw [← e]; exact hk) hp
    · have h1 := e k hk.symm
      have h2 := hP k hp
      omega
theorem Rl.grown {o : Value} {B2 n2 : Nat} {xs : List Value} (h : Rl B W P v L) (ho : W.ownsRow B2 36 1 o n2 xs) (hg : W.grownBy W' o.ownBlock) (hne : ∀ k, some k = v.ownBlock → some k ≠ o.ownBlock) : Rl B W' P v L :=
  ⟨row_kept h.row fun k hk => hg.block k (h.row.lt k hk.symm).2 (hne k hk), fun c hc => (h.ls c hc).grown ho hg, h.xp⟩
end
/-- a pair of trails, and two rows of lists that lie apart from it -/
structure Kp (w W : World) (x : Nat) (s : Sl) (y : Nat) (u : Value) (n : Nat) (Rx Ry : List Pl) (vo vw : Value) (Lo Lw : List Cls) : Prop where
  pq : Pq W x s y u n Rx Ry
  bel : Below w.heap.size w W
  new : ∀ k, prP x s y u k → w.heap.size ≤ k
  o : Rl w.heap.size W (prP x s y u) vo Lo
  v : Rl w.heap.size W (prP x s y u) vw Lw
  ap : ApartC Lo
  xx : ∀ k, some k = vo.ownBlock → some k ≠ vw.ownBlock
section
variable {w W W' : World} {x y : Nat} {s s' : Sl} {u u' : Value} {n : Nat} {Rx Ry R' : List Pl} {vo vw vo' vw' : Value} {Lo Lw N : List Cls}
theorem Kp.below (h : Kp w W x s y u n Rx Ry vo vw Lo Lw) (hb : Below W.heap.size W W') : Kp w W' x s y u n Rx Ry vo vw Lo Lw := ⟨h.pq.below hb, Below.step h.bel hb, h.new, h.o.below hb, h.v.below hb, h.ap, h.xx⟩
theorem Kp.mg (h : Kp w W x s y u n Rx Ry vo vw Lo Lw) {Rx' Ry' : List Pl} (hp : Pq W' x s' y u' n Rx' Ry') (hm : Mg W (prP x s y u) W' (prP x s' y u')) : Kp w W' x s' y u' n Rx' Ry' vo vw Lo Lw :=
  ⟨hp, h.bel.trans ⟨hm.os, hm.tape, hm.output, hm.size, fun k hk => hm.block k (Nat.lt_of_lt_of_le hk h.bel.size) (fun h1 => by have := h.new k h1; omega)⟩, fun k hk => by
    rcases hm.new k hk with h1 | h1
    · exact h.new k h1
    · exact Nat.le_trans h.bel.size h1, h.o.mg hm, h.v.mg hm, h.ap, h.xx⟩
theorem grown_bel {o : Option Nat} (hb : Below w.heap.size w W) (hg : W.grownBy W' o) (ho : ∀ k, o = some k → w.heap.size ≤ k) : Below w.heap.size w W' := hb.grown hg hb.size ho
theorem Kp.appO (h : Kp w W x s y u n Rx Ry vo vw Lo Lw) (hN : ∀ c ∈ N, Lx w.heap.size W (prP x s y u) c) (hap : ApartC (Lo ++ N)) (own' : W'.ownsRow w.heap.size 36 1 vo' (Lo.length + N.length) (Lo.map Prod.fst ++ N.map Prod.fst)) (ap : Ap W vo W' vo') :
    Kp w W' x s y u n Rx Ry vo' vw (Lo ++ N) Lw := by
  refine ⟨h.pq.kept fun k hk => ap.grown.block k (h.pq.lt k hk) (fun e => h.o.xp k e hk), grown_bel h.bel ap.grown (fun k e => (h.o.row.lt k e).1), h.new, h.o.app hN h.pq.lt own' ap, h.v.grown h.o.row ap.grown (fun k hk e => h.xx k e hk), hap, fun k hk e => ?_⟩
  rcases ap.new with e1 | e1
  · exact h.xx k (by rw [← e1]; exact hk) e
  · have h1 := e1 k hk.symm
    have h2 := (h.v.row.lt k e.symm).2
    omega
theorem Kp.appW (h : Kp w W x s y u n Rx Ry vo vw Lo Lw) (hN : ∀ c ∈ N, Lx w.heap.size W (prP x s y u) c) (own' : W'.ownsRow w.heap.size 36 1 vw' (Lw.length + N.length) (Lw.map Prod.fst ++ N.map Prod.fst)) (ap : Ap W vw W' vw') :
    Kp w W' x s y u n Rx Ry vo vw' Lo (Lw ++ N) := by
  refine ⟨h.pq.kept fun k hk => ap.grown.block k (h.pq.lt k hk) (fun e => h.v.xp k e hk), grown_bel h.bel ap.grown (fun k e => (h.v.row.lt k e).1), h.new, h.o.grown h.v.row ap.grown (fun k hk e => h.xx k hk e), h.v.app hN h.pq.lt own' ap, h.ap, fun k hk e => ?_⟩
  rcases ap.new with e1 | e1
  · exact h.xx k hk (by rw [← e1]; exact e)
  · have h1 := e1 k e.symm
    have h2 := (h.o.row.lt k hk.symm).2
    omega
/-- a list that was made just now -/
theorem Kp.fresh (h : Kp w W x s y u n Rx Ry vo vw Lo Lw) {v : Value} {zs : List Int} (ho : Own W.heap.size W' v zs) (hl : zs.length ≤ 1048576) : Lx w.heap.size W' (prP x s y u) (v, zs) :=
  ⟨ho.mono h.bel.size, fun k hk hp => by have h1 := (ho.lt k hk.symm).1; have h2 := h.pq.lt k hp; omega, hl⟩
end
end Go.Proofs.Ytjcgfigbbbefcaa
