/-
  joined: AparQ AparQB AparQW AparR AparS AparSB KitQ AparY AparYB
-/
import Derived.Test.YtilcokpaeapmeaaDoorKOwnH
import Derived.Shelf.Lay
import Derived.Maps.AppendAt
import Derived.ArgAppend
import Derived.OneCell
import Derived.BigQuiet
set_option linter.unusedSimpArgs false
set_option linter.unusedVariables false
namespace Go.Proofs.YtilcokpaeapmeaaDoor
open Go Go.RowKit Go.Shelf

attribute [local go_sem] Oper.semAt_some

theorem grown_of_below {w w' : World} (h : Below w.heap.size w w') : w.grownBy w' none := ⟨h.os, h.tape, h.output, h.size, fun k hk _ => h.block k hk⟩
theorem own_store {base : Nat} {w : World} {g cap n m : Nat} {Y : List Int} {z : Int} (h : Own base w (.slice (some ⟨g, 0, none⟩) n cap) Y) (hl : Y.length = n) :
    Own base (w.setCell ⟨g, m, none⟩ (.int .i64 z)) (.slice (some ⟨g, 0, none⟩) n cap) (Y.set m z) := by
  subst hl
  by_cases hm : m < Y.length
  · have h1 := own_cell (k := m) h (by omega) (.int .i64 z)
    unfold Own
    rw [List.length_set, List.map_set]
    exact h1
  · rw [List.set_eq_of_length_le (by omega)]
    rcases h.2 with ⟨e, _⟩ | ⟨g', cap', cur, hv, hb, hg, h1, h2, h3, h4⟩
    · simp at e
    · injection hv with ha _ hc
      injection ha with ha; injection ha with ha; subst ha; subst hc
      refine ⟨h.1, .inr ⟨g, cap, cur.setIfInBounds m (.int .i64 z), rfl, hb, set_heap hg m _, h1, h2, by simpa using h3, ?_⟩⟩
      rw [Array.toList_setIfInBounds, List.take_set, h4, List.set_eq_of_length_le (by simp; omega)]

section
variable {P : Program} (w : World)
/-- append onto a row of one's own: in its block, or in a new one -/
theorem run_append_two (base : Nat) (t ty e : TypeId) (i : TypeInfo) (z : Value) (bytes : Nat) (ht : P.underlying t = some (.slice e)) (hi : P.info? e = some i) (hz : i.zero = some z)
    (hsize : i.size = 1) (hby : i.bytes = bytes) (hzs : z.cells.size = 1)
    (v : Value) (n : Nat) (xs : List Value) (hown : w.ownsRow base e 1 v n xs)
    (a : Addr) (m c : Nat) (news : List Value) (hl : news.length = m) (hnews : ∀ j u, news[j]? = some u → w.cell? (a.add j) = some u) (h1 : ∀ u ∈ news, u.oneCell' = true)
    (hm : 0 < m) (h63 : n + m ≤ maxLen) (hbytes : (n + m) * bytes ≤ 140737488355328) (hbase : base ≤ w.heap.size) :
    ∃ v' w', (Builtin.append_ #[t, t] ty #[v, .slice (some a) m c]).run P w = .ok v' w' ∧ w'.ownsRow base e 1 v' (n + m) (xs ++ news) ∧
      ((∃ g cap, v = .slice (some ⟨g, 0, none⟩) n cap ∧ v' = .slice (some ⟨g, 0, none⟩) (n + m) cap ∧ w.grownBy w' (some g)) ∨ (w'.ownsRow w.heap.size e 1 v' (n + m) (xs ++ news) ∧ w.grownBy w' none)) := by
  have hl1 : news.length = m * 1 := by omega
  have hlen : (xs ++ news).length = (n + m) * 1 := by rw [List.length_append, hown.1, hl1, Nat.add_mul]
  have up : ∀ {v' : Value} {w' : World}, w'.ownsRow w.heap.size e 1 v' (n + m) (xs ++ news) → w'.ownsRow base e 1 v' (n + m) (xs ++ news) := fun h => by
    refine ⟨h.1, ?_⟩
    rcases h.2 with hn | ⟨g, cap, cur, hv, hb', hg, r⟩
    · exact .inl hn
    · exact .inr ⟨g, cap, cur, hv, Nat.le_trans hbase hb', hg, r⟩
  rcases hown.2 with ⟨rfl, rfl⟩ | ⟨g, cap, cur, rfl, hbg, hg, hnc, hcm, hcs, htake⟩
  · have hx : xs = [] := List.eq_nil_of_length_eq_zero (by simpa using hown.1)
    subst hx
    obtain ⟨v', w', hr, h2, h3, -⟩ := run_append_own (P := P) w w.heap.size t ty e i z 1 bytes ht hi hz hsize hby hzs (by omega) (.slice none 0 0) 0 [] (World.ownsRow_nil w _ e 1) a m c news hl1 hnews h1 h63 hbytes (Nat.le_refl _)
    exact ⟨v', w', hr, up h2, .inr ⟨h2, h3⟩⟩
  · by_cases hroom : n + m ≤ cap
    · have hfit : n * i.size + news.length ≤ cur.size := by rw [hl, hcs, hsize]; omega
      have hr := run_append_room (P := P) w t ty e i ht hi g n cap cur hg a m c news (by rw [hl, hsize]; omega) hnews h1 hroom hfit
      refine ⟨_, _, hr, ⟨hlen, .inr ⟨g, cap, _, rfl, hbg, setRow_heap w g cur _ e _ hg, hroom, hcm, ?_, ?_⟩⟩, .inl ⟨g, cap, rfl, rfl, ⟨rfl, rfl, rfl, by simp, fun k _ hk => setRow_other w g k _ (fun e => hk (by simp [e]))⟩⟩⟩
      · simp only [List.size_toArray, List.length_append, List.length_take, List.length_drop, Array.length_toList, hsize]
        omega
      · rw [hsize, htake, ← hlen]
        exact List.take_left
    · have holds : ∀ j u, xs[j]? = some u → w.cell? ((⟨g, 0, none⟩ : Addr).add j) = some u := hown.cells (g := g) rfl
      obtain ⟨v', w', hrun, r1, r2⟩ := run_append_arg_grows (P := P) w t ty e i z 1 bytes ht hi hz hsize hby hzs (by omega) ⟨g, 0, none⟩ n cap xs hown.1 holds a m c news hl1 hnews (by omega) h63 hbytes
      exact ⟨v', w', hrun, up r1, .inr ⟨r1, r2⟩⟩

theorem wpList_append_two {ops : Array Oper} {rest : List Oper} {o : Oper} {a : Act} {Q : Exit → Act → World → Prop} (hgd : o.guard = none) (s x : Operand) (t : TypeId)
    (ho : o.op = .call { callee := .builtin .append, args := #[s, x], argTypes := #[t, t] })
    (base : Nat) (e : TypeId) (i : TypeInfo) (z : Value) (bytes : Nat) (ht : P.underlying t = some (.slice e)) (hi : P.info? e = some i) (hz : i.zero = some z)
    (hsize : i.size = 1) (hby : i.bytes = bytes) (hzs : z.cells.size = 1)
    (v : Value) (n : Nat) (xs : List Value) (hs : a.eval s = v) (hown : w.ownsRow base e 1 v n xs)
    (ad : Addr) (m c : Nat) (news : List Value) (hx : a.eval x = .slice (some ad) m c) (hl : news.length = m) (hnews : ∀ j u, news[j]? = some u → w.cell? (ad.add j) = some u) (h1 : ∀ u ∈ news, u.oneCell' = true)
    (hm : 0 < m) (h63 : n + m ≤ maxLen) (hbytes : (n + m) * bytes ≤ 140737488355328) (hbase : base ≤ w.heap.size)
    (h : ∀ v' w', w'.ownsRow base e 1 v' (n + m) (xs ++ news) →
      ((∃ g cap, v = .slice (some ⟨g, 0, none⟩) n cap ∧ v' = .slice (some ⟨g, 0, none⟩) (n + m) cap ∧ w.grownBy w' (some g)) ∨ (w'.ownsRow w.heap.size e 1 v' (n + m) (xs ++ news) ∧ w.grownBy w' none)) → wpList P ops Q rest (a.put o.dst v') w') :
    wpList P ops Q (o :: rest) a w := by
  refine wpList_plain hgd fun K hK => ?_
  obtain ⟨v', w', hr, h2, h3⟩ := run_append_two (P := P) w base t o.type e i z bytes ht hi hz hsize hby hzs v n xs hown ad m c news hl hnews h1 hm h63 hbytes hbase
  unfold Oper.wp execOp
  simp only [ho, resolve, invoke, builtin, Sem.run_bind, Sem.run_pure, Result.andThen_ok, List.map_toArray, List.map_cons, List.map_nil, hs, hx, hr]
  exact hK _ _ (h v' w' h2 h3)
end

/-- a shorter row in the block of one that has grown there -/
theorem own_prefix {B B' : Nat} {e : TypeId} {w w' : World} {v0 : Value} {n0 n m g cap : Nat} {xs0 xs news : List Value} (h0 : w.ownsRow B e 1 v0 n0 xs0) (hb : v0.ownBlock = some g) (hv : w.ownsRow B' e 1 (.slice (some ⟨g, 0, none⟩) n cap) n xs) (hn : n0 ≤ n)
    (hv' : w'.ownsRow B' e 1 (.slice (some ⟨g, 0, none⟩) (n + m) cap) (n + m) (xs ++ news)) : w'.ownsRow B e 1 v0 n0 xs0 := by
  refine ⟨h0.1, ?_⟩
  rcases h0.2 with ⟨rfl, _⟩ | ⟨g0, cap0, cur, rfl, hbg, hg, hnc, hcm, hcs, ht⟩
  · cases hb
  · cases hb
    rcases hv.2 with ⟨e1, _⟩ | ⟨g1, cap1, cur1, e1, _, hg1, hnc1, hcm1, hcs1, ht1⟩
    · cases e1
    · cases e1
      rw [hg] at hg1
      cases hg1
      rcases hv'.2 with ⟨e2, _⟩ | ⟨g2, cap2, cur2, e2, _, hg2, hnc2, hcm2, hcs2, ht2⟩
      · cases e2
      · cases e2
        refine .inr ⟨_, _, cur2, rfl, hbg, hg2, hnc, hcm, by omega, ?_⟩
        have hx0 : xs0 = xs.take (n0 * 1) := by rw [← ht, ← ht1, List.take_take]; congr 1; omega
        have hxl : xs.length = n := by have := hv.1; omega
        rw [hx0, show cur2.toList.take (n0 * 1) = (cur2.toList.take ((n + m) * 1)).take (n0 * 1) by rw [List.take_take]; congr 1; omega, ht2, List.take_append_of_le_length (by omega)]

/-- rows of unlike types lie apart -/
theorem ownsRow_apart {base base' e e' s s' : Nat} {w w' : World} {v u : Value} {n n' : Nat} {xs xs' : List Value} (hne : e ≠ e') (h : w.ownsRow base e s v n xs) (hu : w.ownsRow base' e' s' u n' xs') (hg : w.grownBy w' u.ownBlock) : w'.ownsRow base e s v n xs := by
  refine ⟨h.1, ?_⟩
  rcases h.2 with hn | ⟨g, cap, cur, hv, hb', hh, r⟩
  · exact .inl hn
  · refine .inr ⟨g, cap, cur, hv, hb', ?_, r⟩
    rw [hg.block g (Array.getElem?_eq_some_iff.1 hh).1 (fun e => ?_)]
    · exact hh
    · rcases hu.2 with ⟨hn, _⟩ | ⟨g', cap', cur', hv', _, hh', _⟩
      · subst hn; cases e
      · subst hv'
        have e' : g' = g := by simpa [Value.ownBlock] using e.symm
        subst e'
        rw [hh] at hh'
        cases hh'
        exact hne rfl
theorem block_apart {base base' e e' s s' : Nat} {w : World} {v u : Value} {n n' g : Nat} {xs xs' : List Value} (hne : e ≠ e') (h : w.ownsRow base e s v n xs) (hu : w.ownsRow base' e' s' u n' xs') (hg : u.ownBlock = some g) : v.ownBlock ≠ some g := by
  intro hv
  rcases h.2 with ⟨rfl, _⟩ | ⟨g1, cap, cur, rfl, hb', hh, r⟩
  · cases hv
  rcases hu.2 with ⟨rfl, _⟩ | ⟨g', cap', cur', rfl, _, hh', _⟩
  · cases hg
  simp only [Value.ownBlock, Option.map_some, Option.some.injEq] at hv hg
  subst hv
  subst hg
  rw [hh] at hh'
  cases hh'
  exact hne rfl

/-- the mark of a place -/
theorem mrk_ex : ∃ f : Nat → Nat → Int, ∀ k i : Nat, f k i = wrap64 (wrap64 (1000003 * ((k : Int) + 7)) + (i : Int)) := ⟨_, fun _ _ => rfl⟩
noncomputable def mrk : Nat → Nat → Int := Classical.choose mrk_ex
theorem mrk_eq (k i : Nat) : mrk k i = wrap64 (wrap64 (1000003 * ((k : Int) + 7)) + (i : Int)) := Classical.choose_spec mrk_ex k i
theorem mark_any (k i : Nat) (w : World) (hk : k ≤ 9007199254740992) (hi : i ≤ 35184372088832) :
    Calls Tryd.prog 30 #[.int .i64 k, .int .i64 i] w fun e w' => e = .returned (.int .i64 (mrk k i)) ∧ w' = w := by
  have HE : Hid (mrk k i = wrap64 (wrap64 (1000003 * ((k : Int) + 7)) + (i : Int))) := mrk_eq k i
  go_enter Tryd.func30, Tryd.ntmps30
  go_wp2
  go_ret
  exact ⟨by rw [HE.out]; rfl, rfl⟩

/-- a list of n numbers of the call's own whose first c bear their marks -/
def Pm (B : Nat) (w : World) (v : Value) (k n c : Nat) : Prop := ∃ Y : List Int, Own B w v Y ∧ Y.length = n ∧ ∀ t, t < c → Y.getD t 0 = mrk k t
theorem Pm.slice {B : Nat} {w : World} {v : Value} {k n c : Nat} (h : Pm B w v k n c) : ∃ a cap, v = .slice a n cap := by
  obtain ⟨Y, ho, rfl, -⟩ := h
  rcases ho.2 with ⟨rfl, hn⟩ | ⟨g, cap, cur, hv, _⟩
  · exact ⟨none, 0, by rw [hn]⟩
  · exact ⟨_, _, hv⟩
theorem Pm.place {B : Nat} {w : World} {v : Value} {k n c i : Nat} (h : Pm B w v k n c) (hi : i < n) : ∃ g cap y, v = .slice (some ⟨g, 0, none⟩) n cap ∧ B ≤ g ∧ n ≤ cap ∧ w.cell? ⟨g, i, none⟩ = some (.int .i64 y) ∧ w.frozen? ⟨g, i, none⟩ = false := by
  obtain ⟨Y, ho, rfl, -⟩ := h
  have hne : Y ≠ [] := by intro e; rw [e] at hi; simp at hi
  obtain ⟨g, cap, e, hH, hg, hbase, hncap, hmm⟩ := trown_holds ho hne
  refine ⟨g, cap, Y.getD i 0, e, hbase, hncap, ?_, ?_⟩
  · have := (hH i (by simpa using hi)).1
    simpa [List.getD_eq_getElem?_getD, getElem!_def, Array.getElem?_eq_getElem, hi] using this
  · have := (hH i (by simpa using hi)).2
    simpa using this
theorem Pm.cell {B : Nat} {w : World} {v : Value} {k n c i : Nat} (h : Pm B w v k n c) (hi : i < n) (hc : i < c) : ∃ g cap, v = .slice (some ⟨g, 0, none⟩) n cap ∧ n ≤ cap ∧ w.cell? ⟨g, i, none⟩ = some (.int .i64 (mrk k i)) := by
  obtain ⟨Y, ho, rfl, hm⟩ := h
  have hne : Y ≠ [] := by intro e; rw [e] at hi; simp at hi
  obtain ⟨g, cap, e, hH, hg, hbase, hncap, hmm⟩ := trown_holds ho hne
  refine ⟨g, cap, e, hncap, ?_⟩
  rw [← hm i hc]
  have := (hH i (by simpa using hi)).1
  simpa [List.getD_eq_getElem?_getD, getElem!_def, Array.getElem?_eq_getElem, hi] using this
theorem Pm.store {B : Nat} {w : World} {g cap k n i : Nat} (h : Pm B w (.slice (some ⟨g, 0, none⟩) n cap) k n i) (hi : i < n) : Pm B (w.setCell ⟨g, i, none⟩ (.int .i64 (mrk k i))) (.slice (some ⟨g, 0, none⟩) n cap) k n (i + 1) := by
  obtain ⟨Y, ho, hY, hm⟩ := h
  refine ⟨Y.set i (mrk k i), own_store ho hY, by rw [List.length_set]; exact hY, fun t ht => ?_⟩
  by_cases e : t = i
  · subst e
    simp [List.getD_eq_getElem?_getD, List.getElem?_set, hY, hi]
  · have := hm t (by omega)
    simp only [List.getD_eq_getElem?_getD] at this ⊢
    rw [List.getElem?_set_ne (by omega)]
    exact this
theorem Pm.setOther {B : Nat} {w : World} {v : Value} {k n c g i : Nat} (h : Pm B w v k n c) (hne : v.ownBlock ≠ some g) (x : Value) : Pm B (w.setCell ⟨g, i, none⟩ x) v k n c := by
  obtain ⟨Y, ho, hY, hm⟩ := h
  exact ⟨Y, ownsRow_setCell_other ho (a := ⟨g, i, none⟩) hne x, hY, hm⟩
theorem Pm.kept {B : Nat} {w w' : World} {v : Value} {k n c : Nat} {row : Option Nat} (h : Pm B w v k n c) (hg : w.grownBy w' row) (hne : v.ownBlock = none ∨ v.ownBlock ≠ row) : Pm B w' v k n c := by
  obtain ⟨Y, ho, hY, hm⟩ := h
  exact ⟨Y, World.ownsRow.kept ho hg hne, hY, hm⟩
theorem Pm.less {B : Nat} {w : World} {v : Value} {k n c c' : Nat} (h : Pm B w v k n c) (hc : c' ≤ c) : Pm B w v k n c' := by
  obtain ⟨Y, ho, hY, hm⟩ := h
  exact ⟨Y, ho, hY, fun t ht => hm t (by omega)⟩
theorem Pm.lt {B : Nat} {w : World} {v : Value} {k n c : Nat} (h : Pm B w v k n c) : ∀ b, v.ownBlock = some b → B ≤ b ∧ b < w.heap.size := by
  obtain ⟨Y, ho, hY, hm⟩ := h
  exact World.ownsRow.lt ho

end Go.Proofs.YtilcokpaeapmeaaDoor
set_option linter.unusedSimpArgs false
set_option linter.unusedVariables false
namespace Go.Proofs.YtilcokpaeapmeaaDoor
open Go Go.RowKit Go.Shelf

/-- a row of lists that lie apart, the first places of each marked -/
theorem heap_other {W : World} {k : Nat} (a : Addr) (v : Value) (ha : a.block ≠ k) : (W.setCell a v).heap[k]? = W.heap[k]? := by
  show (W.heap.modify a.block _)[k]? = _
  rw [Array.getElem?_modify, if_neg ha]
structure Aq (Q : Nat → Prop) (B : Nat) (w wr : World) (rv : Value) (K : Nat) (v : Nat → Value) (n c : Nat → Nat) : Prop where
  row : wr.ownsRow B 58 1 rv K ((List.range K).map v)
  pm : ∀ j, j < K → Pm B wr (v j) j (n j) (c j)
  bel : Below B w wr
  ko : KeepsOthers w wr
  kp : ∀ k, Q k → wr.heap[k]? = w.heap[k]?
  qv : ∀ j, j < K → ∀ b, (v j).ownBlock = some b → ¬ Q b
  qs : ∀ k, Q k → k < w.heap.size
theorem row_cells {base e s : Nat} {w : World} {v : Value} {n : Nat} {xs : List Value} (h : w.ownsRow base e s v n xs) : ∀ (j : Nat) (o : Obj), v.ownBlock = some j → w.heap[j]? = some o → o.isCells = true := fun j o ej hj => by
  rcases h.2 with ⟨rfl, _⟩ | ⟨g, cap, cur, rfl, _, hgb, _⟩
  · cases ej
  · cases ej
    rw [hgb] at hj
    cases hj
    rfl
theorem Aq.weaken {Q : Nat → Prop} {B : Nat} {w wr : World} {rv : Value} {K : Nat} {v : Nat → Value} {n c c' : Nat → Nat} (h : Aq Q B w wr rv K v n c) (hc : ∀ j, j < K → c' j ≤ c j) : Aq Q B w wr rv K v n c' :=
  ⟨h.row, fun j hj => (h.pm j hj).less (hc j hj), h.bel, h.ko, h.kp, h.qv, h.qs⟩
theorem Aq.drew {Q : Nat → Prop} {B : Nat} {w wr : World} {rv : Value} {K : Nat} {v : Nat → Value} {n c : Nat → Nat} (h : Aq Q B w wr rv K v n c) : Aq Q B w wr.drew rv K v n c := ⟨h.row, h.pm, h.bel.drew, ⟨h.ko.size, h.ko.same⟩, h.kp, h.qv, h.qs⟩
theorem row_at {B K k : Nat} {wr : World} {rv : Value} {v : Nat → Value} (h : wr.ownsRow B 58 1 rv K ((List.range K).map v)) (hk : k < K) :
    ∃ g cap, rv = .slice (some ⟨g, 0, none⟩) K cap ∧ K ≤ cap ∧ wr.cell? ⟨g, k, none⟩ = some (v k) := by
  rcases h.2 with ⟨_, hn⟩ | ⟨g, cap, cur, hv, hb, hh, hnc, hcm, hcs, ht⟩
  · omega
  · subst hv
    refine ⟨g, cap, rfl, hnc, (h.cellAt k (by omega)).trans ?_⟩
    simp [hk]
theorem Aq.mark {Q : Nat → Prop} {B : Nat} {w wr : World} {rv : Value} {K : Nat} {v : Nat → Value} {n c : Nat → Nat} (h : Aq Q B w wr rv K v n c)
    (hap : ∀ i j, i < K → j < K → i ≠ j → (v i).ownBlock = none ∨ (v i).ownBlock ≠ (v j).ownBlock) {k i : Nat} (hk : k < K) (hc : c k = i) (hi : i < n k) :
    ∃ g cap y, v k = .slice (some ⟨g, 0, none⟩) (n k) cap ∧ n k ≤ cap ∧ wr.cell? ⟨g, i, none⟩ = some (.int .i64 y) ∧ wr.frozen? ⟨g, i, none⟩ = false ∧
      Aq Q B w (wr.setCell ⟨g, i, none⟩ (.int .i64 (mrk k i))) rv K v n (fun j => if j = k then i + 1 else c j) := by
  have hp := h.pm k hk
  obtain ⟨g, cap, y, e, hg, hcap, h1, h2⟩ := hp.place hi
  refine ⟨g, cap, y, e, hcap, h1, h2, ?_, fun j hj => ?_, h.bel.setCell (p := ⟨g, i, none⟩) hg _, h.ko.trans (KeepsOthers.setCell _ _ _), fun q hq => (heap_other (W := wr) ⟨g, i, none⟩ _ (fun e9 => h.qv k hk g (by rw [e]; rfl) (by rw [show g = q from e9]; exact hq))).trans (h.kp q hq), h.qv, h.qs⟩
  · obtain ⟨Y, ho, -, -⟩ := hp
    exact ownsRow_setCell_other h.row (a := ⟨g, i, none⟩) (block_apart (by decide) h.row ho (by rw [e]; rfl)) _
  · by_cases ej : j = k
    · subst ej
      rw [if_pos rfl, e]
      rw [e, hc] at hp
      exact hp.store hi
    · skip
      rw [if_neg ej]
      refine (h.pm j hj).setOther (fun e' => ?_) _
      rcases hap j k hj hk ej with q | q
      · rw [q] at e'; cases e'
      · rw [e', e] at q; exact q rfl

theorem Pm.prefix {B : Nat} {w w' : World} {v0 : Value} {k n0 c g cap m : Nat} {Y : List Int} {news : List Value} (h0 : Pm B w v0 k n0 c) (hb : v0.ownBlock = some g) (hv : Own B w (.slice (some ⟨g, 0, none⟩) Y.length cap) Y) (hn : n0 ≤ Y.length)
    (hv' : w'.ownsRow B 3 1 (.slice (some ⟨g, 0, none⟩) (Y.length + m) cap) (Y.length + m) (Y.map (Value.int .i64) ++ news)) : Pm B w' v0 k n0 c := by
  obtain ⟨Y0, ho, hl, hm⟩ := h0
  exact ⟨Y0, own_prefix (n0 := Y0.length) ho hb hv (by omega) hv', hl, hm⟩

/-- beside them a row of grown ones -/
structure Gq (Q : Nat → Prop) (B S : Nat) (w wr : World) (rv : Value) (K : Nat) (v : Nat → Value) (n : Nat → Nat) (gr : Value) (kr k : Nat) (u : Nat → Value) (m : Nat → Nat) : Prop where
  ap : Aq Q B w wr rv K v n n
  grow : wr.ownsRow S 58 1 gr kr ((List.range kr).map u)
  gp : ∀ j, j < k → Pm B wr (u j) j (n j + 64) (m j)
  gb : ∀ j, j < k → (u j).ownBlock = (v j).ownBlock ∨ ∃ b, (u j).ownBlock = some b ∧ S ≤ b
  sz : S ≤ wr.heap.size
  hB : B ≤ S
  vb : ∀ j, j < K → ∀ b, (v j).ownBlock = some b → b < S
  rb : ∀ b, rv.ownBlock = some b → b < S
  hap : ∀ i j, i < K → j < K → i ≠ j → (v i).ownBlock = none ∨ (v i).ownBlock ≠ (v j).ownBlock
  hk : k ≤ K
  sw : w.heap.size ≤ S

theorem Gq.step {Q : Nat → Prop} {B S : Nat} {w wr w' : World} {rv : Value} {K : Nat} {v : Nat → Value} {n : Nat → Nat} {gr : Value} {kr k : Nat} {u : Nat → Value} {m : Nat → Nat} {row : Option Nat} (h : Gq Q B S w wr rv K v n gr kr k u m) (hg : wr.grownBy w' row)
    (hrow : ∀ b, row = some b → B ≤ b) (hqq : ∀ b, row = some b → ¬ Q b) (hce : ∀ (j : Nat) (o : Obj), row = some j → wr.heap[j]? = some o → o.isCells = true) (hv : ∀ j, j < K → Pm B w' (v j) j (n j) (n j)) (hr : rv.ownBlock = none ∨ rv.ownBlock ≠ row) (hgr : gr.ownBlock = none ∨ gr.ownBlock ≠ row) (hu : ∀ j, j < k → (u j).ownBlock = none ∨ (u j).ownBlock ≠ row) :
    Gq Q B S w w' rv K v n gr kr k u m :=
  ⟨⟨World.ownsRow.kept h.ap.row hg hr, hv, h.ap.bel.grown hg (Nat.le_trans h.hB h.sz) hrow, h.ap.ko.trans (KeepsOthers.of_grownBy hg hce), fun q hq => (hg.block q (Nat.lt_of_lt_of_le (h.ap.qs q hq) h.ap.bel.size) (fun e => hqq q e.symm hq)).trans (h.ap.kp q hq), h.ap.qv, h.ap.qs⟩, World.ownsRow.kept h.grow hg hgr, fun j hj => (h.gp j hj).kept hg (hu j hj), h.gb, Nat.le_trans h.sz hg.size, h.hB, h.vb, h.rb, h.hap, h.hk, h.sw⟩
theorem none_or (x : Option Nat) : x = none ∨ x ≠ none := Classical.em _
theorem Gq.new {Q : Nat → Prop} {B S : Nat} {w wr w' : World} {rv : Value} {K : Nat} {v : Nat → Value} {n : Nat → Nat} {gr : Value} {kr k : Nat} {u : Nat → Value} {m : Nat → Nat} (h : Gq Q B S w wr rv K v n gr kr k u m) (hg : wr.grownBy w' none) : Gq Q B S w w' rv K v n gr kr k u m :=
  h.step hg (fun b e => by cases e) (fun b e => by cases e) (fun j o e => by cases e) (fun j hj => (h.ap.pm j hj).kept hg (none_or _)) (none_or _) (none_or _) (fun j hj => none_or _)

theorem Gq.app {Q : Nat → Prop} {B S : Nat} {w wr wa w' : World} {rv : Value} {K : Nat} {v : Nat → Value} {n : Nat → Nat} {gr : Value} {kr k : Nat} {u : Nat → Value} {m : Nat → Nat} (h : Gq Q B S w wr rv K v n gr kr k u m) (hk : k < K) {x x' : Value} {Sk : Nat} (hSk : S ≤ Sk) (hSw : Sk ≤ wr.heap.size)
    (huk : ∀ j, j < k → ∀ b, (u j).ownBlock = some b → b < Sk) {Y nz : List Int} (ho : Own B wr x Y) (hN : n k ≤ Y.length) (hxb : x.ownBlock = (v k).ownBlock ∨ ∃ b, x.ownBlock = some b ∧ Sk ≤ b) (hga : wr.grownBy wa none) (hnz : 0 < nz.length)
    (h1 : w'.ownsRow B 3 1 x' (Y.length + nz.length) (Y.map (Value.int .i64) ++ nz.map (Value.int .i64)))
    (h2 : (∃ g cap, x = .slice (some ⟨g, 0, none⟩) Y.length cap ∧ x' = .slice (some ⟨g, 0, none⟩) (Y.length + nz.length) cap ∧ wa.grownBy w' (some g)) ∨ (w'.ownsRow wa.heap.size 3 1 x' (Y.length + nz.length) (Y.map (Value.int .i64) ++ nz.map (Value.int .i64)) ∧ wa.grownBy w' none)) :
    Gq Q B S w w' rv K v n gr kr k u m ∧ Own B w' x' (Y ++ nz) ∧ (x'.ownBlock = (v k).ownBlock ∨ ∃ b, x'.ownBlock = some b ∧ Sk ≤ b) := by
  have ha := h.new hga
  have hoa : Own B wa x Y := World.ownsRow.kept ho hga (none_or _)
  have o1 : Own B w' x' (Y ++ nz) := by
    unfold Own
    rw [List.length_append, List.map_append]
    exact h1
  rcases h2 with ⟨g, cap, rfl, rfl, hg⟩ | ⟨h3, hg⟩
  · have ex : (Value.slice (some ⟨g, 0, none⟩) Y.length cap).ownBlock = some g := rfl
    have ex' : (Value.slice (some ⟨g, 0, none⟩) (Y.length + nz.length) cap).ownBlock = some g := rfl
    have hBg : B ≤ g := (World.ownsRow.lt hoa g ex).1
    rw [ex] at hxb
    have nr : rv.ownBlock ≠ some g := block_apart (by decide) ha.ap.row hoa ex
    have ngr : gr.ownBlock ≠ some g := block_apart (by decide) ha.grow hoa ex
    refine ⟨?_, o1, by rw [ex']; exact hxb⟩
    rcases hxb with q | ⟨b, q, hb⟩
    · refine ha.step hg (fun b e => by cases e; exact hBg) (fun b e => by cases e; exact h.ap.qv k hk _ q.symm) (fun j o e h => row_cells hoa j o (by rw [ex]; exact e) h) (fun j hj => ?_) (.inr nr) (.inr ngr) (fun j hj => ?_)
      · by_cases e : j = k
        · subst e
          exact (ha.ap.pm j hj).prefix q.symm hoa hN h1
        · refine (ha.ap.pm j hj).kept hg ?_
          have := h.hap j k hj hk e
          rwa [← q] at this
      · rcases h.gb j hj with q' | ⟨b, q', hb⟩
        · rw [q']
          have := h.hap j k (by omega) hk (by omega)
          rwa [← q] at this
        · refine .inr (fun e => ?_)
          rw [q'] at e
          cases e
          have := h.vb k hk _ q.symm
          omega
    · cases q
      refine ha.step hg (fun b e => by cases e; exact hBg) (fun b e hq => by cases e; have h7 := h.ap.qs _ hq; have h8 := h.sw; omega) (fun j o e h => row_cells hoa j o (by rw [ex]; exact e) h) (fun j hj => (ha.ap.pm j hj).kept hg (.inr fun e => ?_)) (.inr nr) (.inr ngr) (fun j hj => .inr fun e => ?_)
      · have := h.vb j hj _ e
        omega
      · have := huk j hj _ e
        omega
  · refine ⟨ha.new hg, o1, .inr ?_⟩
    rcases h3.2 with ⟨_, hn⟩ | ⟨g, cap, cur, rfl, hb, _⟩
    · omega
    · have := hga.size
      exact ⟨g, rfl, by omega⟩

theorem Gq.push {Q : Nat → Prop} {B S : Nat} {w wr wa w' : World} {rv : Value} {K : Nat} {v : Nat → Value} {n : Nat → Nat} {gr gr' : Value} {k : Nat} {u : Nat → Value} {m : Nat → Nat} (h : Gq Q B S w wr rv K v n gr k k u m) (hk : k < K) {x : Value} (hga : wr.grownBy wa none)
    (own' : w'.ownsRow S 58 1 gr' (k + 1) ((List.range k).map u ++ [x])) (hg : wa.grownBy w' gr.ownBlock) (hx : Pm B wr x k (n k + 64) (m k)) (hxb : x.ownBlock = (v k).ownBlock ∨ ∃ b, x.ownBlock = some b ∧ S ≤ b) :
    Gq Q B S w w' rv K v n gr' (k + 1) (k + 1) (fun j => if j < k then u j else x) m := by
  have ha := h.new hga
  have hxa := hx.kept hga (none_or _)
  have keep : ∀ {y : Value} {a b c : Nat}, Pm B wa y a b c → Pm B w' y a b c := fun hp => by
    obtain ⟨Y, ho, hl, hm⟩ := hp
    exact ⟨Y, ownsRow_apart (by decide) ho ha.grow hg, hl, hm⟩
  have hgB : ∀ b, gr.ownBlock = some b → S ≤ b := fun b e => (World.ownsRow.lt ha.grow b e).1
  have hr : rv.ownBlock = none ∨ rv.ownBlock ≠ gr.ownBlock := by
    cases e : rv.ownBlock with
    | none => exact .inl rfl
    | some b => exact .inr fun e' => by have h1 := h.rb b e; have h2 := hgB b e'.symm; omega
  refine ⟨⟨World.ownsRow.kept ha.ap.row hg hr, fun j hj => keep (ha.ap.pm j hj), ha.ap.bel.grown hg (Nat.le_trans ha.hB ha.sz) (fun b e => Nat.le_trans h.hB (hgB b e)), ha.ap.ko.trans (KeepsOthers.of_grownBy hg (row_cells ha.grow)), fun q hq => (hg.block q (Nat.lt_of_lt_of_le (ha.ap.qs q hq) ha.ap.bel.size) (fun e => by have h7 := hgB q e.symm; have h8 := ha.ap.qs q hq; have h9 := h.sw; omega)).trans (ha.ap.kp q hq), h.ap.qv, h.ap.qs⟩, ?_, fun j hj => ?_, fun j hj => ?_, Nat.le_trans ha.sz hg.size, h.hB, h.vb, h.rb, h.hap, hk, h.sw⟩
  · have : (List.range (k + 1)).map (fun j => if j < k then u j else x) = (List.range k).map u ++ [x] := by
      rw [List.range_succ, List.map_append]
      simp only [List.map_cons, List.map_nil, Nat.lt_irrefl, if_false]
      congr 1
      exact List.map_congr_left fun j hj => by rw [if_pos (List.mem_range.1 hj)]
    rw [this]
    exact own'
  · by_cases e : j < k
    · rw [if_pos e]; exact keep (ha.gp j e)
    · obtain rfl : j = k := by omega
      rw [if_neg e]; exact keep hxa
  · by_cases e : j < k
    · rw [if_pos e]; exact h.gb j e
    · obtain rfl : j = k := by omega
      rw [if_neg e]; exact hxb

theorem Gq.put {Q : Nat → Prop} {B S : Nat} {w wr : World} {rv : Value} {K : Nat} {v : Nat → Value} {n : Nat → Nat} {gg cap : Nat} {k : Nat} {u : Nat → Value} {m : Nat → Nat} (h : Gq Q B S w wr rv K v n (.slice (some ⟨gg, 0, none⟩) K cap) K k u m) (hk : k < K) {x : Value}
    (hx : Pm B wr x k (n k + 64) (m k)) (hxb : x.ownBlock = (v k).ownBlock ∨ ∃ b, x.ownBlock = some b ∧ S ≤ b) :
    Gq Q B S w (wr.setCell ⟨gg, k, none⟩ x) rv K v n (.slice (some ⟨gg, 0, none⟩) K cap) K (k + 1) (fun j => if j = k then x else u j) m := by
  obtain ⟨s1, s2⟩ := World.ownsRow.stored h.grow k x
  have hgS : S ≤ gg := (World.ownsRow.lt h.grow gg rfl).1
  have keep : ∀ {y : Value} {a b c : Nat}, Pm B wr y a b c → Pm B (wr.setCell ⟨gg, k, none⟩ x) y a b c := fun hp => by
    obtain ⟨Y, ho, hl, hm⟩ := hp
    exact ⟨Y, ownsRow_apart (by decide) ho h.grow s2, hl, hm⟩
  have hr : rv.ownBlock = none ∨ rv.ownBlock ≠ some gg := .inr fun e => by have := h.rb gg e; omega
  refine ⟨⟨World.ownsRow.kept h.ap.row s2 hr, fun j hj => keep (h.ap.pm j hj), h.ap.bel.setCell (p := ⟨gg, k, none⟩) (Nat.le_trans h.hB hgS) _, h.ap.ko.trans (KeepsOthers.setCell _ _ _), fun q hq => (heap_other (W := wr) ⟨gg, k, none⟩ _ (fun e9 => by have h7 : gg = q := e9; have h8 := h.ap.qs q hq; have h9 := h.sw; omega)).trans (h.ap.kp q hq), h.ap.qv, h.ap.qs⟩, ?_, fun j hj => ?_, fun j hj => ?_, Nat.le_trans h.sz s2.size, h.hB, h.vb, h.rb, h.hap, hk, h.sw⟩
  · have : ((List.range K).map u).set k x = (List.range K).map (fun j => if j = k then x else u j) := by
      apply List.ext_getElem?
      intro j
      rw [List.getElem?_set, List.getElem?_map, List.getElem?_map]
      by_cases e : k = j
      · subst e
        simp [hk]
      · have e' : ¬ j = k := fun h => e h.symm
        by_cases hj : j < K <;> simp [e, e', hj]
    rw [← this]
    exact s1
  · by_cases e : j = k
    · subst e; rw [if_pos rfl]; exact keep hx
    · rw [if_neg e]; exact keep (h.gp j (by omega))
  · by_cases e : j = k
    · subst e; rw [if_pos rfl]; exact hxb
    · rw [if_neg e]; exact h.gb j (by omega)

end Go.Proofs.YtilcokpaeapmeaaDoor
set_option linter.unusedSimpArgs false
set_option linter.unusedVariables false
namespace Go.Proofs.YtilcokpaeapmeaaDoor
open Go Go.RowKit Go.Shelf

attribute [local go_sem] Oper.semAt_some

theorem szA (w : World) (o : Obj) : w.heap.size < (w.alloc o).heap.size := by simp
theorem infoL : (Tryd.prog.info? 58).map (fun i => (i.zero, i.size, i.bytes)) = some (some (.slice none 0 0), 1, 24) := by kernel_rfl
theorem Gq.drew {Q : Nat → Prop} {B S : Nat} {w wr : World} {rv : Value} {K : Nat} {v : Nat → Value} {n : Nat → Nat} {gr : Value} {kr k : Nat} {u : Nat → Value} {m : Nat → Nat} (h : Gq Q B S w wr rv K v n gr kr k u m) : Gq Q B S w wr.drew rv K v n gr kr k u m :=
  ⟨h.ap.drew, h.grow, h.gp, h.gb, h.sz, h.hB, h.vb, h.rb, h.hap, h.hk, h.sw⟩
theorem Gq.drewN {Q : Nat → Prop} {B S : Nat} {w wr : World} {rv : Value} {K : Nat} {v : Nat → Value} {n : Nat → Nat} {gr : Value} {kr k : Nat} {u : Nat → Value} {m : Nat → Nat} (h : Gq Q B S w wr rv K v n gr kr k u m) (q : Nat) : Gq Q B S w (wr.drewN q) rv K v n gr kr k u m := by
  refine h.new ?_
  exact grown_of_below (below_drewN _ _)
theorem own_slice {B : Nat} {w : World} {x : Value} {Y : List Int} (h : Own B w x Y) : ∃ a c, x = .slice a Y.length c := by
  rcases h.2 with ⟨hv, hn⟩ | ⟨g, cap, cur, hv, _⟩
  · exact ⟨none, 0, by rw [hv, hn]⟩
  · exact ⟨_, _, hv⟩
theorem row_slice {B K : Nat} {e : TypeId} {w : World} {x : Value} {xs : List Value} (h : w.ownsRow B e 1 x K xs) : ∃ a c, x = .slice a K c := by
  rcases h.2 with ⟨hv, hn⟩ | ⟨g, cap, cur, hv, _⟩
  · exact ⟨none, 0, by rw [hv, hn]⟩
  · exact ⟨_, _, hv⟩
theorem Gq.side {Q : Nat → Prop} {B S Sk N : Nat} {w wr wa w' : World} {rv : Value} {K : Nat} {v : Nat → Value} {n : Nat → Nat} {gr mv : Value} {kr k : Nat} {u : Nat → Value} {m : Nat → Nat} {xs : List Value} (h : Gq Q B S w wr rv K v n gr kr k u m) (hSk : S ≤ Sk)
    (huk : ∀ j, j < k → ∀ b, (u j).ownBlock = some b → b < Sk) (hga : wr.grownBy wa none) (hm : wa.ownsRow Sk 3 1 mv N xs) (hg : wa.grownBy w' mv.ownBlock) : Gq Q B S w w' rv K v n gr kr k u m := by
  have ha := h.new hga
  cases e : mv.ownBlock with
  | none => rw [e] at hg; exact ha.new hg
  | some g =>
    have hS : Sk ≤ g := (World.ownsRow.lt hm g e).1
    rw [e] at hg
    refine ha.step hg (fun b e' => by cases e'; have := h.hB; omega) (fun b e' hq => by cases e'; have h7 := h.ap.qs _ hq; have h8 := h.sw; omega) (fun j o e' hj => row_cells hm j o (by rw [e]; exact e') hj) (fun j hj => (ha.ap.pm j hj).kept hg (.inr fun e' => ?_)) (.inr (block_apart (by decide) ha.ap.row hm e)) (.inr (block_apart (by decide) ha.grow hm e)) (fun j hj => .inr fun e' => ?_)
    · have := h.vb j hj _ e'
      omega
    · have := huk j hj _ e'
      omega

set_option maxRecDepth 100000 in
set_option maxHeartbeats 8000000 in
theorem apart_q (Q : Nat → Prop) (B : Nat) (rv : Value) (K : Nat) (v : Nat → Value) (n : Nat → Nat) (w : World) (hB : B ≤ w.heap.size)
    (hrow : w.ownsRow B 58 1 rv K ((List.range K).map v)) (hown : ∀ j, j < K → ∃ Y, Own B w (v j) Y ∧ Y.length = n j)
    (hap : ∀ i j, i < K → j < K → i ≠ j → (v i).ownBlock = none ∨ (v i).ownBlock ≠ (v j).ownBlock) (hK : K * 24 ≤ 140737488351232) (hn : ∀ j, j < K → n j * 8 ≤ 140737488353280) (hqv : ∀ j, j < K → ∀ b, (v j).ownBlock = some b → ¬ Q b) (hqs : ∀ k, Q k → k < w.heap.size) :
    Calls Tryd.prog 43 #[rv] w fun e w' => e = .returned (.bool true) ∧ Below B w w' ∧ ∀ k, Q k → w'.heap[k]? = w.heap[k]? := by
  obtain ⟨i0, hi, hz0, hz1, hz2⟩ := info_parts Tryd.info3
  obtain ⟨iL, hiL, hL0, hL1, hL2⟩ := info_parts infoL
  have A0 : Hid (Aq Q B w w rv K v n (fun _ => 0)) := ⟨hrow, fun j hj => by obtain ⟨Y, h1, h2⟩ := hown j hj; exact ⟨Y, h1, h2, fun t ht => by omega⟩, Below.refl _ _, KeepsOthers.refl _, fun _ _ => rfl, hqv, hqs⟩
  obtain ⟨ar, cr, rfl⟩ : ∃ ar cr, rv = .slice ar K cr := row_slice hrow
  have HAP : Hid (∀ i j, i < K → j < K → i ≠ j → (v i).ownBlock = none ∨ (v i).ownBlock ≠ (v j).ownBlock) := hap
  have HN : Hid (∀ j, j < K → n j * 8 ≤ 140737488353280) := hn
  clear hap hn hrow hown
  go_enter Tryd.func43, Tryd.ntmps43
  go_wp2
  go_loopg [3] K (fun g i wr => ∃ k : Nat, k + g = K ∧ i = .int .i64 k ∧ Aq Q B w wr (.slice ar K cr) K v n (fun j => if j < k then n j else 0))
  case atStart => exact ⟨0, by omega, rfl, A0.out.weaken (fun j _ => by simp)⟩
  case round =>
  obtain ⟨k, hk, rfl, ap⟩ := hrel
  have HK : Hid (k + gk = K) := hk
  by_cases hlt : k < K
  · have AP : Hid (Aq Q B w wr (.slice ar K cr) K v n (fun j => if j < k then n j else 0)) := ap
    obtain ⟨gr, cap, er, hcap, hcell⟩ := row_at ap.row hlt
    simp only [Value.slice.injEq, true_and] at er
    obtain ⟨rfl, rfl⟩ := er
    have hnk := HN.out k hlt
    clear ap hk
    obtain ⟨nk, hnk'⟩ : ∃ nk, n k = nk := ⟨_, rfl⟩
    rw [hnk'] at hnk
    have HNK : Hid (n k = nk) := hnk'
    clear hnk' hcell
    go_wp2
    go_loopg [4] nk (fun g i wq => ∃ i' : Nat, i' + g = nk ∧ i = .int .i64 i' ∧ Aq Q B w wq (.slice (some ⟨gr, 0, none⟩) K cr) K v n (fun j => if j < k then n j else if j = k then i' else 0))
    case atStart => exact ⟨0, by omega, rfl, AP.out.weaken (fun j _ => by simp)⟩
    case round =>
      obtain ⟨i, hi', rfl, ap⟩ := hrel
      have HI : Hid (i + gk = nk) := hi'
      by_cases hil : i < nk
      · obtain ⟨_, _, er, -, hcell⟩ := row_at ap.row hlt
        cases er
        obtain ⟨g, cap, y, e, hcp, q1, q2, apm⟩ := ap.mark HAP.out hlt (i := i) (by simp) (by rw [HNK.out]; exact hil)
        rw [e, HNK.out] at hcell
        have APM : Hid (Aq Q B w (wr.setCell ⟨g, i, none⟩ (.int .i64 (mrk k i))) (.slice (some ⟨gr, 0, none⟩) K cr) K v n (fun j => if j = k then i + 1 else if j < k then n j else if j = k then i else 0)) := apm
        rw [HNK.out] at hcp
        have HM : Hid (∀ W, Calls Tryd.prog 30 #[.int .i64 k, .int .i64 i] W fun e w' => e = .returned (.int .i64 (mrk k i)) ∧ w' = W) := fun W => mark_any k i W (by omega) (by omega)
        clear ap apm hi' e
        generalize mrk k i = mk at *
        go_wp2
        go_region_with (go_at_call 30; refine (HM.out _).mono ?_; rintro e wv ⟨rfl, rfl⟩)
        all_goals
          go_wp2
          go_roundg (gk - 1)
          case measure => have := HI.out; omega
          case rel => exact ⟨i + 1, by have := HI.out; omega, by go_num, APM.out.drew.weaken (fun j _ => by
            by_cases e1 : j = k
            · subst e1; simp
            · simp [e1])⟩
      · have e : nk = i := by omega
        subst e
        clear hi' hil
        obtain ⟨_, _, er, -, hcell⟩ := row_at ap.row hlt
        cases er
        obtain ⟨ax, cx, e⟩ := (ap.pm k hlt).slice
        rw [e, HNK.out] at hcell
        have AP2 : Hid (Aq Q B w wr (.slice (some ⟨gr, 0, none⟩) K cr) K v n (fun j => if j < k then n j else if j = k then nk else 0)) := ap
        clear ap e
        go_wp2
        go_roundg (K - k - 1)
        case measure => have := HK.out; omega
        case rel => exact ⟨k + 1, by have := HK.out; omega, by go_num, AP2.out.weaken (fun j _ => by
            by_cases e1 : j = k
            · subst e1; simp [HNK.out]
            · by_cases e2 : j < k
              · simp [e2, show j < k + 1 by omega]
              · simp [show ¬ j < k + 1 by omega])⟩
  have e : K = k := by omega
  subst e
  clear hk hlt HK A0
  have ap3 := ap.weaken (c' := n) (fun j hj => by simp [hj])
  have sB : B ≤ wr.heap.size := Nat.le_trans hB ap.bel.size
  have G0 : Hid (Gq Q B wr.heap.size w wr (.slice ar K cr) K v n (.slice none 0 0) 0 0 (fun _ => .slice none 0 0) (fun j => n j + 64)) :=
    ⟨ap3, World.ownsRow_nil _ _ _ _, fun j hj => by omega, fun j hj => by omega, Nat.le_refl _, sB, fun j hj b e => ((ap3.pm j hj).lt b e).2, fun b e => (World.ownsRow.lt ap3.row b e).2, HAP.out, Nat.zero_le _, ap.bel.size⟩
  clear ap ap3
  generalize wr = w3 at *
  go_wp2
  go_loopg [5, 6] K (fun g gsv kv wr => ∃ (k : Nat) (u : Nat → Value) (ag : Option Addr) (cg : Nat), k + g = K ∧ gsv = .slice ag k cg ∧ kv = .int .i64 k ∧ Gq Q B w3.heap.size w wr (.slice ar K cr) K v n (.slice ag k cg) k k u (fun j => n j + 64))
  case atStart => exact ⟨0, _, none, 0, by omega, rfl, rfl, G0.out⟩
  case round =>
  obtain ⟨k, u, ag, cg, hk, rfl, rfl, gs⟩ := hrel
  have HK : Hid (k + gk = K) := hk
  by_cases hlt : k < K
  · obtain ⟨gr, cap, er, hcap, hcell⟩ := row_at gs.ap.row hlt
    simp only [Value.slice.injEq, true_and] at er
    obtain ⟨rfl, rfl⟩ := er
    have hnk := HN.out k hlt
    obtain ⟨nk, hnk'⟩ : ∃ nk, n k = nk := ⟨_, rfl⟩
    rw [hnk'] at hnk
    have HNK : Hid (n k = nk) := hnk'
    obtain ⟨Y0, ho0, hl0, hm0⟩ := gs.ap.pm k hlt
    rw [hnk'] at hl0 hm0
    obtain ⟨a0, c0, e0⟩ := own_slice ho0
    rw [hl0] at e0
    have HE0 : Hid (v k = .slice a0 nk c0) := e0
    rw [e0] at hcell ho0
    have HO0 : Hid (Own B wr (.slice a0 nk c0) Y0) := ho0
    have HL0 : Hid (Y0.length = nk) := hl0
    have HM0 : Hid (∀ t, t < nk → Y0.getD t 0 = mrk k t) := hm0
    have GS : Hid (Gq Q B w3.heap.size w wr (.slice (some ⟨gr, 0, none⟩) K cr) K v n (.slice ag k cg) k k u (fun j => n j + 64)) := gs
    have HUK : Hid (∀ j, j < k → ∀ b, (u j).ownBlock = some b → b < wr.heap.size) := fun j hj b e => ((gs.gp j hj).lt b e).2
    have hS3 : w3.heap.size ≤ wr.heap.size := gs.sz
    clear gs hk hnk' e0 ho0 hl0 hm0
    generalize wr = w4 at *
    go_wp2
    clear hcell
    go_loopg [7, 8] 64 (fun g x iv wq => ∃ (i : Nat) (Y : List Int) (ax : Option Addr) (cx : Nat), i + g = 64 ∧ x = .slice ax (nk + i) cx ∧ iv = .int .i64 i ∧ Own B wq (.slice ax (nk + i) cx) Y ∧ Y.length = nk + i ∧ (∀ t, t < nk + i → Y.getD t 0 = mrk k t) ∧
      ((Value.slice ax (nk + i) cx).ownBlock = (v k).ownBlock ∨ ∃ b, (Value.slice ax (nk + i) cx).ownBlock = some b ∧ w4.heap.size ≤ b) ∧ Gq Q B w3.heap.size w wq (.slice (some ⟨gr, 0, none⟩) K cr) K v n (.slice ag k cg) k k u (fun j => n j + 64) ∧ w4.heap.size ≤ wq.heap.size)
    case atStart => exact ⟨0, Y0, a0, c0, by omega, rfl, rfl, HO0.out, HL0.out, HM0.out, .inl (by rw [HE0.out]; rfl), GS.out, Nat.le_refl _⟩
    case round =>
      obtain ⟨i, Y, ax, cx, hi', rfl, rfl, ho, hl, hm, hxb, gs, hsz⟩ := hrel
      have HI : Hid (i + gk = 64) := hi'
      by_cases hil : i < 64
      · obtain ⟨_, _, er, -, hcell⟩ := row_at gs.ap.row hlt
        cases er
        rw [HE0.out] at hcell
        have HM : Hid (∀ W, Calls Tryd.prog 30 #[.int .i64 k, .int .i64 ((nk : Int) + (i : Int))] W fun e w' => e = .returned (.int .i64 (mrk k (nk + i))) ∧ w' = W) := fun W => by
          have := mark_any k (nk + i) W (by omega) (by omega)
          rwa [Int.natCast_add] at this
        have HO : Hid (Own B wr (.slice ax (nk + i) cx) Y) := ho
        have HL : Hid (Y.length = nk + i) := hl
        have HMM : Hid (∀ t, t < nk + i → Y.getD t 0 = mrk k t) := hm
        have HXB : Hid ((Value.slice ax (nk + i) cx).ownBlock = (v k).ownBlock ∨ ∃ b, (Value.slice ax (nk + i) cx).ownBlock = some b ∧ w4.heap.size ≤ b) := hxb
        have GS2 : Hid (Gq Q B w3.heap.size w wr (.slice (some ⟨gr, 0, none⟩) K cr) K v n (.slice ag k cg) k k u (fun j => n j + 64)) := gs
        have sBr : B ≤ wr.heap.size := Nat.le_trans gs.hB gs.sz
        clear ho hl hm hxb gs hi'
        obtain ⟨mk, hmk⟩ : ∃ mk, mrk k (nk + i) = mk := ⟨_, rfl⟩
        have HMK : Hid (mrk k (nk + i) = mk) := hmk
        rw [hmk] at HM
        clear hmk
        go_wp2_with fail
        refine (HM.out _).mono ?_
        rintro e wv ⟨rfl, hwv⟩
        rw [hwv]
        clear hwv wv
        go_wp2_with (at_builtin; refine wpList_append_two _ rfl _ _ 58 rfl B 3 i0 (.int .i64 0) 8 Tryd.underlying58 hi hz0 hz1 hz2 rfl _ Y.length (Y.map (Value.int .i64)) rfl (World.ownsRow.alloc HO.out _) ⟨wr.heap.size, 0, none⟩ 1 1 [.int .i64 mk] rfl rfl (cell_one_new _ _ _) (by simp [Value.oneCell']) (by omega) (by rw [HL.out]; unfold maxLen; omega) (by rw [HL.out]; omega) (by simp; omega) ?_; intro x' w' own' h2)
        obtain ⟨gs', ho', hxb'⟩ := GS2.out.app (nz := [mk]) hlt hS3 hsz HUK.out HO.out (by rw [HNK.out, HL.out]; omega) HXB.out (World.grownBy_alloc _ _ none) (by simp) own' h2
        obtain ⟨ax', cx', e'⟩ := own_slice ho'
        have hl' : (Y ++ [mk]).length = nk + (i + 1) := by rw [List.length_append, HL.out]; rfl
        rw [hl'] at e'
        subst e'
        have hm' : ∀ t, t < nk + (i + 1) → (Y ++ [mk]).getD t 0 = mrk k t := fun t ht => by
          by_cases e : t < nk + i
          · rw [← HMM.out t e, List.getD_eq_getElem?_getD, List.getD_eq_getElem?_getD, List.getElem?_append_left (by rw [HL.out]; exact e)]
          · obtain rfl : t = nk + i := by omega
            rw [HMK.out, List.getD_eq_getElem?_getD, ← HL.out, List.getElem?_concat_length]
            rfl
        have hsz' : w4.heap.size ≤ w'.heap.size := by
          have h0 : wr.heap.size ≤ (wr.alloc (.cells #[.int .i64 mk] 3)).heap.size := Nat.le_of_lt (szA _ _)
          rcases h2 with ⟨_, _, _, _, h3⟩ | ⟨_, h3⟩ <;> exact Nat.le_trans hsz (Nat.le_trans h0 h3.size)
        go_roundg (gk - 1)
        case measure => have := HI.out; omega
        case rel => exact ⟨i + 1, Y ++ [mk], ax', cx', by have := HI.out; omega, rfl, by go_num, ho', hl', hm', hxb', gs', hsz'⟩
      · obtain rfl : i = 64 := by omega
        clear hi' hil
        have PX : Hid (Pm B wr (.slice ax (nk + 64) cx) k (n k + 64) (n k + 64)) := ⟨Y, ho, by rw [HNK.out]; exact hl, by rw [HNK.out]; exact hm⟩
        have HXB : Hid ((Value.slice ax (nk + 64) cx).ownBlock = (v k).ownBlock ∨ ∃ b, (Value.slice ax (nk + 64) cx).ownBlock = some b ∧ w3.heap.size ≤ b) := by
          rcases hxb with q | ⟨b, q, hb⟩
          · exact .inl q
          · exact .inr ⟨b, q, Nat.le_trans hS3 hb⟩
        have GS2 : Hid (Gq Q B w3.heap.size w wr (.slice (some ⟨gr, 0, none⟩) K cr) K v n (.slice ag k cg) k k u (fun j => n j + 64)) := gs
        have sS : w3.heap.size ≤ wr.heap.size := gs.sz
        clear ho hl hm hxb gs
        go_wp2_with (at_builtin; refine wpList_append_own _ rfl _ _ 23 rfl w3.heap.size 58 iL (.slice none 0 0) 1 24 Tryd.underlying23 hiL hL0 hL1 hL2 rfl (by decide) _ k ((List.range k).map u) rfl (World.ownsRow.alloc GS2.out.grow _) ⟨wr.heap.size, 0, none⟩ 1 1 [.slice ax (nk + 64) cx] rfl rfl (cell_one_new _ _ _) (by simp [Value.oneCell']) (by unfold maxLen; omega) (by omega) (by simp; omega) ?_; intro gr' w' own' gr2 hn')
        have gs' := GS2.out.push hlt (World.grownBy_alloc _ _ none) own' gr2 PX.out HXB.out
        obtain ⟨ag', cg', e'⟩ := row_slice own'
        subst e'
        go_roundg (K - k - 1)
        case measure => have := HK.out; omega
        case rel => exact ⟨k + 1, _, ag', cg', by have := HK.out; omega, rfl, by go_num, gs'⟩
  have e : K = k := by omega
  subst e
  clear hk hlt HK G0
  have G5 : Hid (Gq Q B w3.heap.size w wr (.slice ar K cr) K v n (.slice ag K cg) K K u (fun j => n j + 64)) := gs
  clear gs
  generalize wr = w5 at *
  go_wp2
  go_loopg [9] K (fun g kv wr => ∃ k : Nat, k + g = K ∧ kv = .int .i64 k ∧ Gq Q B w3.heap.size w wr (.slice ar K cr) K v n (.slice ag K cg) K K u (fun j => n j + 64))
  case atStart => exact ⟨0, by omega, rfl, G5.out⟩
  case round =>
  obtain ⟨k, hk, rfl, gs⟩ := hrel
  have HK : Hid (k + gk = K) := hk
  by_cases hlt : k < K
  · obtain ⟨gr, cap, er, hcap, -⟩ := row_at gs.ap.row hlt
    simp only [Value.slice.injEq, true_and] at er
    obtain ⟨rfl, rfl⟩ := er
    obtain ⟨gg, cap', er, hcap', -⟩ := row_at gs.grow hlt
    simp only [Value.slice.injEq, true_and] at er
    obtain ⟨rfl, rfl⟩ := er
    have hnk := HN.out k hlt
    obtain ⟨nk, hnk'⟩ : ∃ nk, n k = nk := ⟨_, rfl⟩
    rw [hnk'] at hnk
    have HNK : Hid (n k = nk) := hnk'
    obtain ⟨av, cv, ev⟩ := (gs.ap.pm k hlt).slice
    obtain ⟨au, cu, eu⟩ := (gs.gp k hlt).slice
    rw [hnk'] at ev eu
    have HEV : Hid (v k = .slice av nk cv) := ev
    have HEU : Hid (u k = .slice au (nk + 64) cu) := eu
    have GS : Hid (Gq Q B w3.heap.size w wr (.slice (some ⟨gr, 0, none⟩) K cr) K v n (.slice (some ⟨gg, 0, none⟩) K cg) K K u (fun j => n j + 64)) := gs
    clear gs hk hnk' ev eu
    go_wp2
    go_loopg [10] (nk + 64) (fun g iv wq => ∃ i : Nat, i + g = nk + 64 ∧ iv = .int .i64 i ∧ Gq Q B w3.heap.size w wq (.slice (some ⟨gr, 0, none⟩) K cr) K v n (.slice (some ⟨gg, 0, none⟩) K cg) K K u (fun j => n j + 64))
    case atStart => exact ⟨0, by omega, rfl, GS.out⟩
    case round =>
      obtain ⟨i, hi', rfl, gs⟩ := hrel
      have HI : Hid (i + gk = nk + 64) := hi'
      obtain ⟨_, _, er, -, hcv⟩ := row_at gs.ap.row hlt
      cases er
      obtain ⟨_, _, er, -, hcu⟩ := row_at gs.grow hlt
      cases er
      rw [HEV.out] at hcv
      rw [HEU.out] at hcu
      have GS2 : Hid (Gq Q B w3.heap.size w wr (.slice (some ⟨gr, 0, none⟩) K cr) K v n (.slice (some ⟨gg, 0, none⟩) K cg) K K u (fun j => n j + 64)) := gs
      by_cases hil : i < nk + 64
      · obtain ⟨ug, uc, e1, hc1, hx1⟩ := (gs.gp k hlt).cell (i := i) (by rw [HNK.out]; exact hil) (by show i < n k + 64; rw [HNK.out]; exact hil)
        rw [HEU.out, HNK.out] at e1
        cases e1
        rw [HNK.out] at hc1
        have HM : Hid (∀ W, Calls Tryd.prog 30 #[.int .i64 k, .int .i64 i] W fun e w' => e = .returned (.int .i64 (mrk k i)) ∧ w' = W) := fun W => mark_any k i W (by omega) (by omega)
        by_cases hiv : i < nk
        · obtain ⟨vg, vc, e2, hc2, hx2⟩ := (gs.ap.pm k hlt).cell (i := i) (by rw [HNK.out]; exact hiv) (by rw [HNK.out]; exact hiv)
          rw [HEV.out, HNK.out] at e2
          cases e2
          rw [HNK.out] at hc2
          clear gs hi'
          generalize mrk k i = mk at *
          go_wp2
          go_quiet ((go_at_call 30; exact Calls.quiet_of_same (HM.out _)))
          go_wp2
          go_roundg (gk - 1)
          case measure => have := HI.out; omega
          case rel => exact ⟨i + 1, by have := HI.out; omega, by go_num, GS2.out.drewN _⟩
        · have hdv : decide (i < nk) = false := decide_eq_false hiv
          have hdv' : decide ((i : Int) < (nk : Int)) = false := decide_eq_false (by omega)
          clear gs hi'
          generalize mrk k i = mk at *
          go_wp2
          go_quiet ((go_at_call 30; exact Calls.quiet_of_same (HM.out _)))
          go_wp2
          go_roundg (gk - 1)
          case measure => have := HI.out; omega
          case rel => exact ⟨i + 1, by have := HI.out; omega, by go_num, GS2.out.drewN _⟩
      · obtain rfl : i = nk + 64 := by omega
        clear gs hi' hil
        go_wp2
        go_roundg (K - k - 1)
        case measure => have := HK.out; omega
        case rel => exact ⟨k + 1, by have := HK.out; omega, by go_num, GS2.out⟩
  have e : K = k := by omega
  subst e
  clear hk hlt HK G5
  have G7 : Hid (Gq Q B w3.heap.size w wr (.slice ar K cr) K v n (.slice ag K cg) K 0 u n) := ⟨gs.ap, gs.grow, fun j hj => by omega, fun j hj => by omega, gs.sz, gs.hB, gs.vb, gs.rb, gs.hap, Nat.zero_le _, gs.sw⟩
  clear gs
  generalize wr = w6 at *
  go_wp2
  go_loopg [11] K (fun g kv wr => ∃ (k : Nat) (u : Nat → Value), k + g = K ∧ kv = .int .i64 k ∧ Gq Q B w3.heap.size w wr (.slice ar K cr) K v n (.slice ag K cg) K k u n)
  case atStart => exact ⟨0, u, by omega, rfl, G7.out⟩
  case round =>
  clear G7
  obtain ⟨k, u, hk, rfl, gs⟩ := hrel
  have HK : Hid (k + gk = K) := hk
  by_cases hlt : k < K
  · obtain ⟨gr, cap, er, hcap, -⟩ := row_at gs.ap.row hlt
    simp only [Value.slice.injEq, true_and] at er
    obtain ⟨rfl, rfl⟩ := er
    obtain ⟨gg, cap', er, hcap', -⟩ := row_at gs.grow hlt
    simp only [Value.slice.injEq, true_and] at er
    obtain ⟨rfl, rfl⟩ := er
    have hnk := HN.out k hlt
    obtain ⟨nk, hnk'⟩ : ∃ nk, n k = nk := ⟨_, rfl⟩
    rw [hnk'] at hnk
    have HNK : Hid (n k = nk) := hnk'
    have GS : Hid (Gq Q B w3.heap.size w wr (.slice (some ⟨gr, 0, none⟩) K cr) K v n (.slice (some ⟨gg, 0, none⟩) K cg) K k u n) := gs
    have HUK : Hid (∀ j, j < k → ∀ b, (u j).ownBlock = some b → b < wr.heap.size) := fun j hj b e => ((gs.gp j hj).lt b e).2
    have hS3 : w3.heap.size ≤ wr.heap.size := gs.sz
    clear gs hk hnk'
    generalize wr = w7 at *
    go_wp2
    go_loopg [12, 13] 64 (fun g mv iv wq => ∃ (i : Nat) (am : Option Addr) (cm : Nat), i + g = 64 ∧ mv = .slice am i cm ∧ iv = .int .i64 i ∧ Own w7.heap.size wq (.slice am i cm) ((List.range i).map (fun t => mrk (k + K) t)) ∧
      Gq Q B w3.heap.size w wq (.slice (some ⟨gr, 0, none⟩) K cr) K v n (.slice (some ⟨gg, 0, none⟩) K cg) K k u n ∧ w7.heap.size ≤ wq.heap.size)
    case atStart => exact ⟨0, none, 0, by omega, rfl, rfl, World.ownsRow_nil _ _ _ _, GS.out, Nat.le_refl _⟩
    case round =>
      obtain ⟨i, am, cm, hi', rfl, rfl, ho, gs, hsz⟩ := hrel
      have HI : Hid (i + gk = 64) := hi'
      have HO : Hid (Own w7.heap.size wr (.slice am i cm) ((List.range i).map (fun t => mrk (k + K) t))) := ho
      have GS2 : Hid (Gq Q B w3.heap.size w wr (.slice (some ⟨gr, 0, none⟩) K cr) K v n (.slice (some ⟨gg, 0, none⟩) K cg) K k u n) := gs
      by_cases hil : i < 64
      · have HM : Hid (∀ W, Calls Tryd.prog 30 #[.int .i64 ((k : Int) + (K : Int)), .int .i64 i] W fun e w' => e = .returned (.int .i64 (mrk (k + K) i)) ∧ w' = W) := fun W => by
          have := mark_any (k + K) i W (by omega) (by omega)
          rwa [Int.natCast_add] at this
        clear ho gs hi'
        obtain ⟨mk, hmk⟩ : ∃ mk, mrk (k + K) i = mk := ⟨_, rfl⟩
        have HMK : Hid (mrk (k + K) i = mk) := hmk
        rw [hmk] at HM
        clear hmk
        obtain ⟨ms, hms⟩ : ∃ ms, (List.range i).map (fun t => mrk (k + K) t) = ms := ⟨_, rfl⟩
        have HMS : Hid ((List.range i).map (fun t => mrk (k + K) t) = ms) := hms
        have HML : Hid (ms.length = i) := by show _ = _; rw [← hms]; simp
        rw [hms] at HO
        clear hms
        go_wp2_with fail
        refine (HM.out _).mono ?_
        rintro e wv ⟨rfl, hwv⟩
        rw [hwv]
        clear hwv wv
        go_wp2_with (at_builtin; refine wpList_append_own _ rfl _ _ 58 rfl w7.heap.size 3 i0 (.int .i64 0) 1 8 Tryd.underlying58 hi hz0 hz1 hz2 rfl (by decide) _ ms.length (ms.map (Value.int .i64)) rfl (World.ownsRow.alloc HO.out _) ⟨wr.heap.size, 0, none⟩ 1 1 [.int .i64 mk] rfl rfl (cell_one_new _ _ _) (by simp [Value.oneCell']) (by rw [HML.out]; unfold maxLen; omega) (by rw [HML.out]; omega) (by simp; omega) ?_; intro x' w' own' gr2 hn')
        have gs' := GS2.out.side hS3 HUK.out (World.grownBy_alloc _ _ none) (World.ownsRow.alloc HO.out _) gr2
        have hsz' : w7.heap.size ≤ w'.heap.size := Nat.le_trans (Nat.le_trans hsz (Nat.le_of_lt (szA _ _))) gr2.size
        have ho' : Own w7.heap.size w' x' ((List.range (i + 1)).map (fun t => mrk (k + K) t)) := by
          rw [List.range_succ, List.map_append, HMS.out, List.map_cons, List.map_nil, HMK.out]
          unfold Own
          rw [List.length_append, List.map_append]
          exact own'
        obtain ⟨am', cm', e'⟩ := own_slice ho'
        have hl' : ((List.range (i + 1)).map (fun t => mrk (k + K) t)).length = i + 1 := by simp
        rw [hl'] at e'
        subst e'
        go_roundg (gk - 1)
        case measure => have := HI.out; omega
        case rel => exact ⟨i + 1, am', cm', by have := HI.out; omega, rfl, by go_num, ho', gs', hsz'⟩
      · obtain rfl : i = 64 := by omega
        clear hi' hil HI
        obtain ⟨_, _, er, -, hcv⟩ := row_at gs.ap.row hlt
        cases er
        obtain ⟨Y, hoY, hlY, hmY⟩ := gs.ap.pm k hlt
        obtain ⟨av, cv, ev⟩ := own_slice hoY
        rw [hlY, HNK.out] at ev
        have HEV : Hid (v k = .slice av nk cv) := ev
        rw [ev] at hcv hoY
        have HOY : Hid (Own B wr (.slice av nk cv) Y) := hoY
        have HLY : Hid (Y.length = nk) := by show _ = _; rw [hlY]; exact HNK.out
        have HMY : Hid (∀ t, t < n k → Y.getD t 0 = mrk k t) := hmY
        obtain ⟨ms, hms⟩ : ∃ ms, (List.range 64).map (fun t => mrk (k + K) t) = ms := ⟨_, rfl⟩
        have HML : Hid (ms.length = 64) := by show _ = _; rw [← hms]; simp
        rw [hms] at HO ho
        obtain ⟨gm, cm', em, -, hgm, hbm, hcm, -⟩ := trown_holds ho (by intro h; have := HML.out; rw [h] at this; cases this)
        rw [HML.out] at em
        cases em
        have HNW : Hid (∀ j u, (ms.map (Value.int .i64))[j]? = some u → wr.cell? ((⟨gm, 0, none⟩ : Addr).add j) = some u) := World.ownsRow.cells ho rfl
        have sBr : B ≤ wr.heap.size := Nat.le_trans gs.hB gs.sz
        clear ho gs hoY hlY hmY hms ev
        go_wp2_with (at_builtin; refine wpList_append_two _ rfl _ _ 58 rfl B 3 i0 (.int .i64 0) 8 Tryd.underlying58 hi hz0 hz1 hz2 rfl _ Y.length (Y.map (Value.int .i64)) rfl HOY.out ⟨gm, 0, none⟩ 64 cm (ms.map (Value.int .i64)) rfl (by rw [List.length_map]; exact HML.out) HNW.out (ints_oneCell' ms) (by omega) (by rw [HLY.out]; unfold maxLen; omega) (by rw [HLY.out]; omega) sBr ?_; intro x' w' own' h2; have own2 : w'.ownsRow B 3 1 x' (Y.length + ms.length) (Y.map (Value.int .i64) ++ ms.map (Value.int .i64)) := (by rw [HML.out]; exact own'); obtain ⟨gs', ho', hxb'⟩ := GS2.out.app (nz := ms) (wa := wr) (Sk := w7.heap.size) hlt hS3 hsz HUK.out HOY.out (Nat.le_of_eq (by rw [HNK.out, HLY.out])) (.inl (congrArg Value.ownBlock HEV.out.symm)) ⟨rfl, rfl, rfl, Nat.le_refl _, fun _ _ _ => rfl⟩ (by rw [HML.out]; omega) own2 (by rw [HML.out]; exact h2); obtain ⟨ax', cx', e'⟩ := own_slice ho'; rw [List.length_append, HLY.out, HML.out] at e'; subst e'; obtain ⟨_, _, er, -, hcu⟩ := row_at gs'.grow hlt; cases er; have hfu := gs'.grow.frozenAt k; have GS3 : Hid (Gq Q B w3.heap.size w w' (.slice (some ⟨gr, 0, none⟩) K cr) K v n (.slice (some ⟨gg, 0, none⟩) K cg) K k u n) := gs'; clear gs' own' own2 h2)
        have PX : Pm B w' (.slice ax' (nk + 64) cx') k (n k + 64) (n k) := ⟨Y ++ ms, ho', by rw [List.length_append, HLY.out, HML.out, HNK.out], fun t ht => by
          rw [← HMY.out t ht, List.getD_eq_getElem?_getD, List.getD_eq_getElem?_getD, List.getElem?_append_left (by rw [HLY.out, ← HNK.out]; exact ht)]⟩
        have gs4 := GS3.out.put hlt PX (by
          rcases hxb' with q | ⟨b, q, hb⟩
          · exact .inl q
          · exact .inr ⟨b, q, Nat.le_trans hS3 hb⟩)
        go_roundg (K - k - 1)
        case measure => have := HK.out; omega
        case rel => exact ⟨k + 1, _, by have := HK.out; omega, by go_num, gs4⟩
  have e : K = k := by omega
  subst e
  clear hk hlt HK
  have G9 : Hid (Gq Q B w3.heap.size w wr (.slice ar K cr) K v n (.slice ag K cg) K K u n) := gs
  clear gs
  generalize wr = w8 at *
  go_wp2
  go_loopg [14] K (fun g kv wr => ∃ k : Nat, k + g = K ∧ kv = .int .i64 k ∧ Gq Q B w3.heap.size w wr (.slice ar K cr) K v n (.slice ag K cg) K K u n)
  case atStart => exact ⟨0, by omega, rfl, G9.out⟩
  case round =>
  obtain ⟨k, hk, rfl, gs⟩ := hrel
  have HK : Hid (k + gk = K) := hk
  by_cases hlt : k < K
  · obtain ⟨gr, cap, er, hcap, -⟩ := row_at gs.ap.row hlt
    simp only [Value.slice.injEq, true_and] at er
    obtain ⟨rfl, rfl⟩ := er
    obtain ⟨gg, cap', er, hcap', -⟩ := row_at gs.grow hlt
    simp only [Value.slice.injEq, true_and] at er
    obtain ⟨rfl, rfl⟩ := er
    have hnk := HN.out k hlt
    obtain ⟨nk, hnk'⟩ : ∃ nk, n k = nk := ⟨_, rfl⟩
    rw [hnk'] at hnk
    have HNK : Hid (n k = nk) := hnk'
    obtain ⟨av, cv, ev⟩ := (gs.ap.pm k hlt).slice
    obtain ⟨au, cu, eu⟩ := (gs.gp k hlt).slice
    rw [hnk'] at ev eu
    have HEV : Hid (v k = .slice av nk cv) := ev
    have HEU : Hid (u k = .slice au (nk + 64) cu) := eu
    have GS : Hid (Gq Q B w3.heap.size w wr (.slice (some ⟨gr, 0, none⟩) K cr) K v n (.slice (some ⟨gg, 0, none⟩) K cg) K K u n) := gs
    clear gs hk hnk' ev eu
    go_wp2
    go_loopg [15] nk (fun g iv wq => ∃ i : Nat, i + g = nk ∧ iv = .int .i64 i ∧ Gq Q B w3.heap.size w wq (.slice (some ⟨gr, 0, none⟩) K cr) K v n (.slice (some ⟨gg, 0, none⟩) K cg) K K u n)
    case atStart => exact ⟨0, by omega, rfl, GS.out⟩
    case round =>
      obtain ⟨i, hi', rfl, gs⟩ := hrel
      have HI : Hid (i + gk = nk) := hi'
      obtain ⟨_, _, er, -, hcv⟩ := row_at gs.ap.row hlt
      cases er
      obtain ⟨_, _, er, -, hcu⟩ := row_at gs.grow hlt
      cases er
      rw [HEV.out] at hcv
      rw [HEU.out] at hcu
      have GS2 : Hid (Gq Q B w3.heap.size w wr (.slice (some ⟨gr, 0, none⟩) K cr) K v n (.slice (some ⟨gg, 0, none⟩) K cg) K K u n) := gs
      by_cases hil : i < nk
      · obtain ⟨ug, uc, e1, hc1, hx1⟩ := (gs.gp k hlt).cell (i := i) (by rw [HNK.out]; omega) (by rw [HNK.out]; exact hil)
        rw [HEU.out, HNK.out] at e1
        cases e1
        rw [HNK.out] at hc1
        have HM : Hid (∀ W, Calls Tryd.prog 30 #[.int .i64 k, .int .i64 i] W fun e w' => e = .returned (.int .i64 (mrk k i)) ∧ w' = W) := fun W => mark_any k i W (by omega) (by omega)
        obtain ⟨vg, vc, e2, hc2, hx2⟩ := (gs.ap.pm k hlt).cell (i := i) (by rw [HNK.out]; exact hil) (by rw [HNK.out]; exact hil)
        rw [HEV.out, HNK.out] at e2
        cases e2
        rw [HNK.out] at hc2
        clear gs hi'
        generalize mrk k i = mk at *
        go_wp2
        go_quiet ((go_at_call 30; exact Calls.quiet_of_same (HM.out _)))
        go_wp2
        go_roundg (gk - 1)
        case measure => have := HI.out; omega
        case rel => exact ⟨i + 1, by have := HI.out; omega, by go_num, GS2.out.drewN _⟩
      · have e : nk = i := by omega
        subst e
        clear gs hi' hil
        go_wp2
        go_roundg (K - k - 1)
        case measure => have := HK.out; omega
        case rel => exact ⟨k + 1, by have := HK.out; omega, by go_num, GS2.out⟩
  have e : K = k := by omega
  subst e
  clear hk hlt HK
  have BE : Hid (Below B w wr ∧ ∀ k, Q k → wr.heap[k]? = w.heap[k]?) := ⟨gs.ap.bel, gs.ap.kp⟩
  clear gs
  go_wp2
  go_ret
  exact ⟨rfl, BE.out⟩

end Go.Proofs.YtilcokpaeapmeaaDoor
set_option linter.unusedSimpArgs false
set_option linter.unusedVariables false
namespace Go.Proofs.YtilcokpaeapmeaaDoor
open Go Go.RowKit Go.Shelf

attribute [local go_sem] Oper.semAt_some

/-- no block of numbers -/
def NI (w : World) (g : Nat) : Prop := ∀ c f, w.heap[g]? ≠ some (.cells c 3 f)
theorem row_ni {B n : Nat} {e : TypeId} {w : World} {v : Value} {xs : List Value} (h : w.ownsRow B e 1 v n xs) (hne : e ≠ 3) : ∀ g, v.ownBlock = some g → NI w g := fun g hg c f hc => by
  rcases h.2 with ⟨rfl, _⟩ | ⟨g', cap, cur, rfl, _, hh, _⟩
  · cases hg
  · cases hg
    rw [hh] at hc
    injection hc with hc
    injection hc with _ h2
    exact hne h2
theorem own_keptN {B : Nat} {w w' : World} {u : Value} {Z : List Int} {row : Option Nat} (h : Own B w u Z) (hg : w.grownBy w' row) (hn : ∀ g, row = some g → NI w g) : Own B w' u Z := by
  refine World.ownsRow.kept h hg ?_
  cases e : u.ownBlock with
  | none => exact .inl rfl
  | some b =>
    refine .inr fun e' => ?_
    rcases h.2 with ⟨rfl, _⟩ | ⟨g', cap, cur, rfl, _, hh, _⟩
    · cases e
    · cases e
      exact hn _ e'.symm _ _ hh
def OwnV (B : Nat) (w : World) (v : Value) (Y : List Value) : Prop := w.ownsRow B 58 1 v Y.length Y
theorem ownv_slice {B : Nat} {w : World} {x : Value} {Y : List Value} (h : OwnV B w x Y) : ∃ a c, x = .slice a Y.length c := row_slice h
/-- the first c bear their marks -/
def Mks (B : Nat) (w : World) (Y : List Value) (k c : Nat) : Prop := ∀ t, t < c → ∃ u, Y[t]? = some u ∧ Own B w u [mrk k t]
theorem Mks.kept {B k c : Nat} {w w' : World} {Y : List Value} {row : Option Nat} (h : Mks B w Y k c) (hg : w.grownBy w' row) (hn : ∀ g, row = some g → NI w g) : Mks B w' Y k c := fun t ht => by
  obtain ⟨u, h1, h2⟩ := h t ht
  exact ⟨u, h1, own_keptN h2 hg hn⟩
theorem Mks.snoc {B k c : Nat} {w : World} {Y : List Value} {u : Value} (h : Mks B w Y k c) (hY : Y.length = c) (hu : Own B w u [mrk k c]) : Mks B w (Y ++ [u]) k (c + 1) := fun t ht => by
  by_cases e : t < c
  · obtain ⟨x, h1, h2⟩ := h t e
    exact ⟨x, by rw [List.getElem?_append_left (by omega)]; exact h1, h2⟩
  · obtain rfl : t = c := by omega
    exact ⟨u, by rw [← hY, List.getElem?_concat_length], hu⟩
def Pmr (B : Nat) (w : World) (v : Value) (k n c : Nat) : Prop := ∃ Y : List Value, OwnV B w v Y ∧ Y.length = n ∧ Mks B w Y k c
section
variable {B : Nat} {w w' : World} {v : Value} {k n c : Nat}
theorem Pmr.slice (h : Pmr B w v k n c) : ∃ a cap, v = .slice a n cap := by
  obtain ⟨Y, ho, rfl, -⟩ := h
  exact ownv_slice ho
theorem Pmr.place {i : Nat} (h : Pmr B w v k n c) (hi : i < n) : ∃ g cap y, v = .slice (some ⟨g, 0, none⟩) n cap ∧ B ≤ g ∧ n ≤ cap ∧ w.cell? ⟨g, i, none⟩ = some y ∧ w.frozen? ⟨g, i, none⟩ = false := by
  obtain ⟨Y, ho, rfl, -⟩ := h
  obtain ⟨g, cap, e, h1, h2, h3⟩ := row_some ho (by omega)
  subst e
  exact ⟨g, cap, Y[i], rfl, (World.ownsRow.lt ho g rfl).1, h1, row_cell ho (List.getElem?_eq_getElem hi), row_fz ho _⟩
theorem Pmr.cell {i : Nat} (h : Pmr B w v k n c) (hi : i < n) (hc : i < c) : ∃ g cap gu cu, v = .slice (some ⟨g, 0, none⟩) n cap ∧ n ≤ cap ∧ w.cell? ⟨g, i, none⟩ = some (.slice (some ⟨gu, 0, none⟩) 1 cu) ∧ 1 ≤ cu ∧ w.cell? ⟨gu, 0, none⟩ = some (.int .i64 (mrk k i)) := by
  obtain ⟨Y, ho, rfl, hm⟩ := h
  obtain ⟨g, cap, e, h1, h2, h3⟩ := row_some ho (by omega)
  subst e
  obtain ⟨u, h4, h5⟩ := hm i hc
  obtain ⟨gu, cu, e, h6, -, -⟩ := row_some h5 (by simp)
  have e' : u = .slice (some ⟨gu, 0, none⟩) 1 cu := e
  subst e'
  exact ⟨g, cap, gu, cu, rfl, h1, row_cell ho h4, h6, row_cell h5 (j := 0) rfl⟩
theorem Pmr.store {g cap i : Nat} {u : Value} (h : Pmr B w (.slice (some ⟨g, 0, none⟩) n cap) k n i) (hi : i < n) (hu : Own B w u [mrk k i]) : Pmr B (w.setCell ⟨g, i, none⟩ u) (.slice (some ⟨g, 0, none⟩) n cap) k n (i + 1) := by
  obtain ⟨Y, ho, rfl, hm⟩ := h
  have hni := row_ni ho (by decide) g rfl
  have hg := grown_set w ⟨g, i, none⟩ u
  have hk : ∀ {x : Value} {Z : List Int}, Own B w x Z → Own B (w.setCell ⟨g, i, none⟩ u) x Z := fun h => own_keptN h hg (fun g' e => by simp at e; subst e; exact hni)
  refine ⟨Y.set i u, ?_, by rw [List.length_set], fun t ht => ?_⟩
  · unfold OwnV
    rw [List.length_set]
    exact own_cell (k := i) ho (by omega) u
  · by_cases e : i = t
    · subst e
      exact ⟨u, List.getElem?_set_self hi, hk hu⟩
    · obtain ⟨x, h1, h2⟩ := hm t (by omega)
      exact ⟨x, by rw [List.getElem?_set_ne e]; exact h1, hk h2⟩
theorem Pmr.setOther {g i : Nat} (h : Pmr B w v k n c) (hne : v.ownBlock ≠ some g) (hni : NI w g) (x : Value) : Pmr B (w.setCell ⟨g, i, none⟩ x) v k n c := by
  obtain ⟨Y, ho, hY, hm⟩ := h
  exact ⟨Y, ownsRow_setCell_other ho (a := ⟨g, i, none⟩) hne x, hY, hm.kept (grown_set w ⟨g, i, none⟩ x) (fun g' e => by simp at e; subst e; exact hni)⟩
theorem Pmr.kept {row : Option Nat} (h : Pmr B w v k n c) (hg : w.grownBy w' row) (hne : v.ownBlock = none ∨ v.ownBlock ≠ row) (hni : ∀ g, row = some g → NI w g) : Pmr B w' v k n c := by
  obtain ⟨Y, ho, hY, hm⟩ := h
  exact ⟨Y, World.ownsRow.kept ho hg hne, hY, hm.kept hg hni⟩
theorem Pmr.less {c' : Nat} (h : Pmr B w v k n c) (hc : c' ≤ c) : Pmr B w v k n c' := by
  obtain ⟨Y, ho, hY, hm⟩ := h
  exact ⟨Y, ho, hY, fun t ht => hm t (by omega)⟩
theorem Pmr.lt (h : Pmr B w v k n c) : ∀ b, v.ownBlock = some b → B ≤ b ∧ b < w.heap.size := by
  obtain ⟨Y, ho, hY, hm⟩ := h
  exact World.ownsRow.lt ho
end
theorem cell_one_newr {w : World} (o : Obj) (x : Value) (t : TypeId) : ∀ j y, [x][j]? = some y → ((w.alloc o).alloc (.cells #[x] t)).cell? ((⟨w.heap.size + 1, 0, none⟩ : Addr).add j) = some y := fun j y hy => by
  rw [Addr.add_lit]
  have hh := World.alloc_heap_new (w.alloc o) (.cells #[x] t)
  rw [World.size_alloc] at hh
  show (match ((w.alloc o).alloc (.cells #[x] t)).heap[w.heap.size + 1]? with | some (Obj.cells c elem frozen) => c[0 + j]? | x => none) = _
  rw [hh]
  simpa using hy
theorem no_row {w : World} : ∀ g, (none : Option Nat) = some g → NI w g := fun g e => by cases e
end Go.Proofs.YtilcokpaeapmeaaDoor
set_option linter.unusedSimpArgs false
set_option linter.unusedVariables false
namespace Go.Proofs.YtilcokpaeapmeaaDoor
open Go Go.RowKit Go.Shelf

attribute [local go_sem] Oper.semAt_some

theorem row_niz {B n s : Nat} {e : TypeId} {w : World} {v : Value} {xs : List Value} (h : w.ownsRow B e s v n xs) (hne : e ≠ 3) : ∀ g, v.ownBlock = some g → NI w g := fun g hg c f hc => by
  rcases h.2 with ⟨rfl, _⟩ | ⟨g', cap, cur, rfl, _, hh, _⟩
  · cases hg
  · cases hg
    rw [hh] at hc
    injection hc with hc
    injection hc with _ h2
    exact hne h2
/-- a step: whether it is a drop, and its list's value -/
abbrev StE := Bool × Value
def spC (Y : List StE) : List Value := Y.flatMap (fun x => [.bool x.1, x.2])
theorem spC_append (X Y : List StE) : spC (X ++ Y) = spC X ++ spC Y := by unfold spC; rw [List.flatMap_append]
theorem spC_at : ∀ (Y : List StE) (j : Nat) (a : Bool) (b : Value), Y[j]? = some (a, b) → (spC Y)[j * 2]? = some (.bool a) ∧ (spC Y)[j * 2 + 1]? = some b
  | [], j, a, b, h => by simp at h
  | x :: r, 0, a, b, h => by
    simp at h
    subst h
    exact ⟨rfl, rfl⟩
  | x :: r, j + 1, a, b, h => by
    have := spC_at r j a b (by simpa using h)
    have e : spC (x :: r) = [.bool x.1, x.2] ++ spC r := rfl
    rw [e, List.getElem?_append_right (by simp; omega), List.getElem?_append_right (by simp; omega)]
    simpa [show (j + 1) * 2 - 2 = j * 2 by omega, show (j + 1) * 2 + 1 - 2 = j * 2 + 1 by omega] using this
theorem spC_set : ∀ (Y : List StE) (j : Nat) (a : Bool) (b : Value), ((spC Y).set (j * 2) (.bool a)).set (j * 2 + 1) b = spC (Y.set j (a, b))
  | [], j, a, b => by simp [spC]
  | x :: r, 0, a, b => rfl
  | x :: r, j + 1, a, b => by
    have e : spC (x :: r) = .bool x.1 :: x.2 :: spC r := rfl
    have e2 : spC ((x :: r).set (j + 1) (a, b)) = .bool x.1 :: x.2 :: spC (r.set j (a, b)) := rfl
    rw [e, e2, ← spC_set r j a b, show (j + 1) * 2 = j * 2 + 1 + 1 by omega]
    rfl
def OwnSp (B : Nat) (w : World) (v : Value) (Y : List StE) : Prop := w.ownsRow B 61 2 v Y.length (spC Y)
theorem own_storesp {base : Nat} {w : World} {g cap n m : Nat} {Y : List StE} {a : Bool} {b : Value} (h : OwnSp base w (.slice (some ⟨g, 0, none⟩) n cap) Y) (hl : Y.length = n) (hm : m < n) :
    OwnSp base ((w.setCell ⟨g, m * 2, none⟩ (.bool a)).setCell ⟨g, m * 2 + 1, none⟩ b) (.slice (some ⟨g, 0, none⟩) n cap) (Y.set m (a, b)) := by
  subst hl
  have h1 := own_cell (k := m * 2) h (by omega) (.bool a)
  have h2 := own_cell (k := m * 2 + 1) h1 (by omega) b
  unfold OwnSp
  rw [List.length_set, ← spC_set]
  exact h2
section
variable {P : Program} (w : World)
theorem run_append_twoz (base : Nat) (t ty e : TypeId) (i : TypeInfo) (z : Value) (size bytes : Nat) (ht : P.underlying t = some (.slice e)) (hi : P.info? e = some i) (hz : i.zero = some z)
    (hsize : i.size = size) (hby : i.bytes = bytes) (hzs : z.cells.size = size) (hsz : 0 < size)
    (v : Value) (n : Nat) (xs : List Value) (hown : w.ownsRow base e size v n xs)
    (a : Addr) (m c : Nat) (news : List Value) (hl : news.length = m * size) (hnews : ∀ j u, news[j]? = some u → w.cell? (a.add j) = some u) (h1 : ∀ u ∈ news, u.oneCell' = true)
    (hm : 0 < m) (h63 : n + m ≤ maxLen) (hbytes : (n + m) * bytes ≤ 140737488355328) (hbase : base ≤ w.heap.size) :
    ∃ v' w', (Builtin.append_ #[t, t] ty #[v, .slice (some a) m c]).run P w = .ok v' w' ∧ w'.ownsRow base e size v' (n + m) (xs ++ news) ∧
      ((∃ g cap, v = .slice (some ⟨g, 0, none⟩) n cap ∧ v' = .slice (some ⟨g, 0, none⟩) (n + m) cap ∧ w.grownBy w' (some g)) ∨ (w'.ownsRow w.heap.size e size v' (n + m) (xs ++ news) ∧ w.grownBy w' none)) := by
  have hl1 : news.length = m * size := hl
  have hlen : (xs ++ news).length = (n + m) * size := by rw [List.length_append, hown.1, hl1, Nat.add_mul]
  have up : ∀ {v' : Value} {w' : World}, w'.ownsRow w.heap.size e size v' (n + m) (xs ++ news) → w'.ownsRow base e size v' (n + m) (xs ++ news) := fun h => by
    refine ⟨h.1, ?_⟩
    rcases h.2 with hn | ⟨g, cap, cur, hv, hb', hg, r⟩
    · exact .inl hn
    · exact .inr ⟨g, cap, cur, hv, Nat.le_trans hbase hb', hg, r⟩
  rcases hown.2 with ⟨rfl, rfl⟩ | ⟨g, cap, cur, rfl, hbg, hg, hnc, hcm, hcs, htake⟩
  · have hx : xs = [] := List.eq_nil_of_length_eq_zero (by have := hown.1; simpa using this)
    subst hx
    obtain ⟨v', w', hr, h2, h3, -⟩ := run_append_own (P := P) w w.heap.size t ty e i z size bytes ht hi hz hsize hby hzs hsz (.slice none 0 0) 0 [] (World.ownsRow_nil w _ e size) a m c news hl1 hnews h1 h63 hbytes (Nat.le_refl _)
    exact ⟨v', w', hr, up h2, .inr ⟨h2, h3⟩⟩
  · by_cases hroom : n + m ≤ cap
    · have hfit : n * i.size + news.length ≤ cur.size := by rw [hl, hcs, hsize, ← Nat.add_mul]; exact Nat.mul_le_mul_right _ hroom
      have hr := run_append_room (P := P) w t ty e i ht hi g n cap cur hg a m c news (by rw [hl, hsize]) hnews h1 hroom hfit
      refine ⟨_, _, hr, ⟨hlen, .inr ⟨g, cap, _, rfl, hbg, setRow_heap w g cur _ e _ hg, hroom, hcm, ?_, ?_⟩⟩, .inl ⟨g, cap, rfl, rfl, ⟨rfl, rfl, rfl, by simp, fun k _ hk => setRow_other w g k _ (fun e => hk (by simp [e]))⟩⟩⟩
      · simp only [List.size_toArray, List.length_append, List.length_take, List.length_drop, Array.length_toList, hsize]
        have h5 : n * size ≤ cap * size := Nat.mul_le_mul_right _ hnc
        have h6 : (n + m) * size ≤ cap * size := Nat.mul_le_mul_right _ hroom
        rw [Nat.add_mul] at h6
        rw [hl1, hcs]
        omega
      · rw [hsize, htake, ← hlen]
        exact List.take_left
    · have holds : ∀ j u, xs[j]? = some u → w.cell? ((⟨g, 0, none⟩ : Addr).add j) = some u := hown.cells (g := g) rfl
      obtain ⟨v', w', hrun, r1, r2⟩ := run_append_arg_grows (P := P) w t ty e i z size bytes ht hi hz hsize hby hzs hsz ⟨g, 0, none⟩ n cap xs hown.1 holds a m c news hl1 hnews (by omega) h63 hbytes
      exact ⟨v', w', hrun, up r1, .inr ⟨r1, r2⟩⟩

theorem wpList_append_twoz {ops : Array Oper} {rest : List Oper} {o : Oper} {a : Act} {Q : Exit → Act → World → Prop} (hgd : o.guard = none) (s x : Operand) (t : TypeId)
    (ho : o.op = .call { callee := .builtin .append, args := #[s, x], argTypes := #[t, t] })
    (base : Nat) (e : TypeId) (i : TypeInfo) (z : Value) (size bytes : Nat) (ht : P.underlying t = some (.slice e)) (hi : P.info? e = some i) (hz : i.zero = some z)
    (hsize : i.size = size) (hby : i.bytes = bytes) (hzs : z.cells.size = size) (hsz : 0 < size)
    (v : Value) (n : Nat) (xs : List Value) (hs : a.eval s = v) (hown : w.ownsRow base e size v n xs)
    (ad : Addr) (m c : Nat) (news : List Value) (hx : a.eval x = .slice (some ad) m c) (hl : news.length = m * size) (hnews : ∀ j u, news[j]? = some u → w.cell? (ad.add j) = some u) (h1 : ∀ u ∈ news, u.oneCell' = true)
    (hm : 0 < m) (h63 : n + m ≤ maxLen) (hbytes : (n + m) * bytes ≤ 140737488355328) (hbase : base ≤ w.heap.size)
    (h : ∀ v' w', w'.ownsRow base e size v' (n + m) (xs ++ news) →
      ((∃ g cap, v = .slice (some ⟨g, 0, none⟩) n cap ∧ v' = .slice (some ⟨g, 0, none⟩) (n + m) cap ∧ w.grownBy w' (some g)) ∨ (w'.ownsRow w.heap.size e size v' (n + m) (xs ++ news) ∧ w.grownBy w' none)) → wpList P ops Q rest (a.put o.dst v') w') :
    wpList P ops Q (o :: rest) a w := by
  refine wpList_plain hgd fun K hK => ?_
  obtain ⟨v', w', hr, h2, h3⟩ := run_append_twoz (P := P) w base t o.type e i z size bytes ht hi hz hsize hby hzs hsz v n xs hown ad m c news hl hnews h1 hm h63 hbytes hbase
  unfold Oper.wp execOp
  simp only [ho, resolve, invoke, builtin, Sem.run_bind, Sem.run_pure, Result.andThen_ok, List.map_toArray, List.map_cons, List.map_nil, hs, hx, hr]
  exact hK _ _ (h v' w' h2 h3)
end
theorem own_prefixz {B B' : Nat} {e : TypeId} {w w' : World} {v0 : Value} {n0 n m g cap size : Nat} {xs0 xs news : List Value} (h0 : w.ownsRow B e size v0 n0 xs0) (hb : v0.ownBlock = some g) (hv : w.ownsRow B' e size (.slice (some ⟨g, 0, none⟩) n cap) n xs) (hn : n0 ≤ n)
    (hv' : w'.ownsRow B' e size (.slice (some ⟨g, 0, none⟩) (n + m) cap) (n + m) (xs ++ news)) : w'.ownsRow B e size v0 n0 xs0 := by
  refine ⟨h0.1, ?_⟩
  rcases h0.2 with ⟨rfl, _⟩ | ⟨g0, cap0, cur, rfl, hbg, hg, hnc, hcm, hcs, ht⟩
  · cases hb
  · cases hb
    rcases hv.2 with ⟨e1, _⟩ | ⟨g1, cap1, cur1, e1, _, hg1, hnc1, hcm1, hcs1, ht1⟩
    · cases e1
    · cases e1
      rw [hg] at hg1
      cases hg1
      rcases hv'.2 with ⟨e2, _⟩ | ⟨g2, cap2, cur2, e2, _, hg2, hnc2, hcm2, hcs2, ht2⟩
      · cases e2
      · cases e2
        refine .inr ⟨_, _, cur2, rfl, hbg, hg2, hnc, hcm, by omega, ?_⟩
        have hx0 : xs0 = xs.take (n0 * size) := by rw [← ht, ← ht1, List.take_take]; congr 1; have := Nat.mul_le_mul_right size hn; omega
        have hxl : xs.length = n * size := hv.1
        have hle : n0 * size ≤ n * size := Nat.mul_le_mul_right _ hn
        have hle2 : n0 * size ≤ (n + m) * size := Nat.mul_le_mul_right _ (by omega)
        rw [hx0, show cur2.toList.take (n0 * size) = (cur2.toList.take ((n + m) * size)).take (n0 * size) by rw [List.take_take]; congr 1; omega, ht2, List.take_append_of_le_length (by omega)]

theorem ownsp_slice {B : Nat} {w : World} {x : Value} {Y : List StE} (h : OwnSp B w x Y) : ∃ a c, x = .slice a Y.length c := by
  rcases h.2 with ⟨hv, hn⟩ | ⟨g, cap, cur, hv, _⟩
  · exact ⟨none, 0, by rw [hv, hn]⟩
  · exact ⟨_, _, hv⟩
/-- whether the t-th step of the k-th list is marked as a drop -/
def prS (k t : Nat) : Bool := ((k : Int) + (t : Int)) % 2 == 0
/-- the first c bear their marks -/
def MksS (B : Nat) (w : World) (Y : List StE) (k c : Nat) : Prop := ∀ t, t < c → ∃ u, Y[t]? = some (prS k t, u) ∧ Own B w u [mrk k t]
theorem MksS.kept {B k c : Nat} {w w' : World} {Y : List StE} {row : Option Nat} (h : MksS B w Y k c) (hg : w.grownBy w' row) (hn : ∀ g, row = some g → NI w g) : MksS B w' Y k c := fun t ht => by
  obtain ⟨u, h1, h2⟩ := h t ht
  exact ⟨u, h1, own_keptN h2 hg hn⟩
theorem MksS.snoc {B k c : Nat} {w : World} {Y : List StE} {u : Value} (h : MksS B w Y k c) (hY : Y.length = c) (hu : Own B w u [mrk k c]) : MksS B w (Y ++ [(prS k c, u)]) k (c + 1) := fun t ht => by
  by_cases e : t < c
  · obtain ⟨x, h1, h2⟩ := h t e
    exact ⟨x, by rw [List.getElem?_append_left (by omega)]; exact h1, h2⟩
  · obtain rfl : t = c := by omega
    exact ⟨u, by rw [← hY, List.getElem?_concat_length], hu⟩
def Pms (B : Nat) (w : World) (v : Value) (k n c : Nat) : Prop := ∃ Y : List StE, OwnSp B w v Y ∧ Y.length = n ∧ MksS B w Y k c
section
variable {B : Nat} {w w' : World} {v : Value} {k n c : Nat}
theorem Pms.slice (h : Pms B w v k n c) : ∃ a cap, v = .slice a n cap := by
  obtain ⟨Y, ho, rfl, -⟩ := h
  exact ownsp_slice ho
theorem Pms.place {i : Nat} (h : Pms B w v k n c) (hi : i < n) : ∃ g cap y z, v = .slice (some ⟨g, 0, none⟩) n cap ∧ B ≤ g ∧ n ≤ cap ∧ w.cell? ⟨g, i * 2, none⟩ = some (.bool y) ∧ w.frozen? ⟨g, i * 2, none⟩ = false ∧ (∀ x, (w.setCell ⟨g, i * 2, none⟩ x).cell? ⟨g, i * 2 + 1, none⟩ = some z ∧ (w.setCell ⟨g, i * 2, none⟩ x).frozen? ⟨g, i * 2 + 1, none⟩ = false) := by
  obtain ⟨Y, ho, rfl, -⟩ := h
  obtain ⟨g, cap, e, h1, h2, h3⟩ := row_some ho (by omega)
  subst e
  obtain ⟨y, z, hyz⟩ : ∃ y z, Y[i]? = some (y, z) := ⟨_, _, List.getElem?_eq_getElem hi⟩
  obtain ⟨c1, c2⟩ := spC_at Y i y z hyz
  refine ⟨g, cap, y, z, rfl, (World.ownsRow.lt ho g rfl).1, h1, row_cell ho c1, row_fz ho _, fun x => ?_⟩
  have h5 := own_cell (k := i * 2) ho (by omega) x
  exact ⟨row_cell h5 (by rw [List.getElem?_set_ne (by omega)]; exact c2), row_fz h5 _⟩
theorem Pms.cell {i : Nat} (h : Pms B w v k n c) (hi : i < n) (hc : i < c) : ∃ g cap gu cu, v = .slice (some ⟨g, 0, none⟩) n cap ∧ n ≤ cap ∧ w.cell? ⟨g, i * 2, none⟩ = some (.bool (prS k i)) ∧ w.cell? ⟨g, i * 2 + 1, none⟩ = some (.slice (some ⟨gu, 0, none⟩) 1 cu) ∧ 1 ≤ cu ∧ w.cell? ⟨gu, 0, none⟩ = some (.int .i64 (mrk k i)) := by
  obtain ⟨Y, ho, rfl, hm⟩ := h
  obtain ⟨g, cap, e, h1, h2, h3⟩ := row_some ho (by omega)
  subst e
  obtain ⟨u, h4, h5⟩ := hm i hc
  obtain ⟨gu, cu, e, h6, -, -⟩ := row_some h5 (by simp)
  have e' : u = .slice (some ⟨gu, 0, none⟩) 1 cu := e
  subst e'
  obtain ⟨c1, c2⟩ := spC_at Y i _ _ h4
  exact ⟨g, cap, gu, cu, rfl, h1, row_cell ho c1, row_cell ho c2, h6, row_cell h5 (j := 0) rfl⟩
theorem Pms.store {g cap i : Nat} {u : Value} (h : Pms B w (.slice (some ⟨g, 0, none⟩) n cap) k n i) (hi : i < n) (hu : Own B w u [mrk k i]) : Pms B ((w.setCell ⟨g, i * 2, none⟩ (.bool (prS k i))).setCell ⟨g, i * 2 + 1, none⟩ u) (.slice (some ⟨g, 0, none⟩) n cap) k n (i + 1) := by
  obtain ⟨Y, ho, rfl, hm⟩ := h
  have hni := row_niz ho (by decide) g rfl
  have hni2 : NI (w.setCell ⟨g, i * 2, none⟩ (.bool (prS k i))) g := row_niz (own_cell (k := i * 2) ho (by omega) (.bool (prS k i))) (by decide) g rfl
  have hk : ∀ {x : Value} {Z : List Int}, Own B w x Z → Own B ((w.setCell ⟨g, i * 2, none⟩ (.bool (prS k i))).setCell ⟨g, i * 2 + 1, none⟩ u) x Z := fun h =>
    own_keptN (own_keptN h (grown_set w ⟨g, i * 2, none⟩ (.bool (prS k i))) (fun g' e => by simp at e; subst e; exact hni)) (grown_set _ ⟨g, i * 2 + 1, none⟩ u) (fun g' e => by simp at e; subst e; exact hni2)
  refine ⟨Y.set i (prS k i, u), own_storesp ho rfl hi, by rw [List.length_set], fun t ht => ?_⟩
  by_cases e : i = t
  · subst e
    exact ⟨u, List.getElem?_set_self hi, hk hu⟩
  · obtain ⟨x, h1, h2⟩ := hm t (by omega)
    exact ⟨x, by rw [List.getElem?_set_ne e]; exact h1, hk h2⟩
theorem Pms.setOther {g i : Nat} (h : Pms B w v k n c) (hne : v.ownBlock ≠ some g) (hni : NI w g) (x : Value) : Pms B (w.setCell ⟨g, i, none⟩ x) v k n c := by
  obtain ⟨Y, ho, hY, hm⟩ := h
  exact ⟨Y, ownsRow_setCell_other ho (a := ⟨g, i, none⟩) hne x, hY, hm.kept (grown_set w ⟨g, i, none⟩ x) (fun g' e => by simp at e; subst e; exact hni)⟩
theorem Pms.kept {row : Option Nat} (h : Pms B w v k n c) (hg : w.grownBy w' row) (hne : v.ownBlock = none ∨ v.ownBlock ≠ row) (hni : ∀ g, row = some g → NI w g) : Pms B w' v k n c := by
  obtain ⟨Y, ho, hY, hm⟩ := h
  exact ⟨Y, World.ownsRow.kept ho hg hne, hY, hm.kept hg hni⟩
theorem Pms.less {c' : Nat} (h : Pms B w v k n c) (hc : c' ≤ c) : Pms B w v k n c' := by
  obtain ⟨Y, ho, hY, hm⟩ := h
  exact ⟨Y, ho, hY, fun t ht => hm t (by omega)⟩
theorem Pms.lt (h : Pms B w v k n c) : ∀ b, v.ownBlock = some b → B ≤ b ∧ b < w.heap.size := by
  obtain ⟨Y, ho, hY, hm⟩ := h
  exact World.ownsRow.lt ho
end
end Go.Proofs.YtilcokpaeapmeaaDoor
set_option linter.unusedSimpArgs false
set_option linter.unusedVariables false
namespace Go.Proofs.YtilcokpaeapmeaaDoor
open Go Go.RowKit Go.Shelf

/-- a row of lists that lie apart, the first places of each marked -/
structure Aqs (Q : Nat → Prop) (B : Nat) (w wr : World) (rv : Value) (K : Nat) (v : Nat → Value) (n c : Nat → Nat) : Prop where
  row : wr.ownsRow B 22 1 rv K ((List.range K).map v)
  pm : ∀ j, j < K → Pms B wr (v j) j (n j) (c j)
  bel : Below B w wr
  ko : KeepsOthers w wr
  kp : ∀ k, Q k → wr.heap[k]? = w.heap[k]?
  qv : ∀ j, j < K → ∀ b, (v j).ownBlock = some b → ¬ Q b
  qs : ∀ k, Q k → k < w.heap.size
theorem Aqs.weaken {Q : Nat → Prop} {B : Nat} {w wr : World} {rv : Value} {K : Nat} {v : Nat → Value} {n c c' : Nat → Nat} (h : Aqs Q B w wr rv K v n c) (hc : ∀ j, j < K → c' j ≤ c j) : Aqs Q B w wr rv K v n c' :=
  ⟨h.row, fun j hj => (h.pm j hj).less (hc j hj), h.bel, h.ko, h.kp, h.qv, h.qs⟩
theorem Aqs.drew {Q : Nat → Prop} {B : Nat} {w wr : World} {rv : Value} {K : Nat} {v : Nat → Value} {n c : Nat → Nat} (h : Aqs Q B w wr rv K v n c) : Aqs Q B w wr.drew rv K v n c := ⟨h.row, h.pm, h.bel.drew, ⟨h.ko.size, h.ko.same⟩, h.kp, h.qv, h.qs⟩
theorem row_ats {B K k : Nat} {wr : World} {rv : Value} {v : Nat → Value} (h : wr.ownsRow B 22 1 rv K ((List.range K).map v)) (hk : k < K) :
    ∃ g cap, rv = .slice (some ⟨g, 0, none⟩) K cap ∧ K ≤ cap ∧ wr.cell? ⟨g, k, none⟩ = some (v k) := by
  rcases h.2 with ⟨_, hn⟩ | ⟨g, cap, cur, hv, hb, hh, hnc, hcm, hcs, ht⟩
  · omega
  · subst hv
    refine ⟨g, cap, rfl, hnc, (h.cellAt k (by omega)).trans ?_⟩
    simp [hk]
theorem Aqs.new {Q : Nat → Prop} {B : Nat} {w wr w' : World} {rv : Value} {K : Nat} {v : Nat → Value} {n c : Nat → Nat} (h : Aqs Q B w wr rv K v n c) (hB : B ≤ wr.heap.size) (hg : wr.grownBy w' none) : Aqs Q B w w' rv K v n c :=
  ⟨World.ownsRow.kept h.row hg (none_or _), fun j hj => (h.pm j hj).kept hg (none_or _) no_row, h.bel.grown hg hB (fun b e => by cases e), h.ko.trans (KeepsOthers.of_grownBy hg (fun j o e => by cases e)), fun q hq => (hg.block q (Nat.lt_of_lt_of_le (h.qs q hq) h.bel.size) (by simp)).trans (h.kp q hq), h.qv, h.qs⟩
theorem Aqs.mark {Q : Nat → Prop} {B : Nat} {w wr : World} {rv : Value} {K : Nat} {v : Nat → Value} {n c : Nat → Nat} (h : Aqs Q B w wr rv K v n c)
    (hap : ∀ i j, i < K → j < K → i ≠ j → (v i).ownBlock = none ∨ (v i).ownBlock ≠ (v j).ownBlock) {k i : Nat} (hk : k < K) (hc : c k = i) (hi : i < n k) {x : Value} (hx : Own B wr x [mrk k i]) :
    ∃ g cap y z, v k = .slice (some ⟨g, 0, none⟩) (n k) cap ∧ n k ≤ cap ∧ wr.cell? ⟨g, i * 2, none⟩ = some (.bool y) ∧ wr.frozen? ⟨g, i * 2, none⟩ = false ∧ (∀ x, (wr.setCell ⟨g, i * 2, none⟩ x).cell? ⟨g, i * 2 + 1, none⟩ = some z ∧ (wr.setCell ⟨g, i * 2, none⟩ x).frozen? ⟨g, i * 2 + 1, none⟩ = false) ∧
      Aqs Q B w ((wr.setCell ⟨g, i * 2, none⟩ (.bool (prS k i))).setCell ⟨g, i * 2 + 1, none⟩ x) rv K v n (fun j => if j = k then i + 1 else c j) := by
  have hp := h.pm k hk
  obtain ⟨g, cap, y, z, e, hg, hcap, h1, h2, h3⟩ := hp.place hi
  have hni : NI wr g := by obtain ⟨Y, ho, -, -⟩ := hp; exact row_niz ho (by decide) g (by rw [e]; rfl)
  have hni2 : NI (wr.setCell ⟨g, i * 2, none⟩ (.bool (prS k i))) g := by
    obtain ⟨Y, ho, hY, -⟩ := hp
    rw [e] at ho
    exact row_niz (own_cell (k := i * 2) (n := n k) (by rw [← hY]; rw [← hY] at ho; exact ho) (by omega) (.bool (prS k i))) (by decide) g rfl
  have hq9 : ∀ q, Q q → q ≠ g := fun q hq e9 => h.qv k hk g (by rw [e]; rfl) (by rw [← e9]; exact hq)
  refine ⟨g, cap, y, z, e, hcap, h1, h2, h3, ?_, fun j hj => ?_, (h.bel.setCell (p := ⟨g, i * 2, none⟩) hg _).setCell (p := ⟨g, i * 2 + 1, none⟩) hg _, (h.ko.trans (KeepsOthers.setCell _ _ _)).trans (KeepsOthers.setCell _ _ _), fun q hq => ((heap_other ⟨g, i * 2 + 1, none⟩ _ (fun e9 => hq9 q hq e9.symm)).trans (heap_other ⟨g, i * 2, none⟩ _ (fun e9 => hq9 q hq e9.symm))).trans (h.kp q hq), h.qv, h.qs⟩
  · obtain ⟨Y, ho, -, -⟩ := hp
    have ha := block_apart (by decide) h.row ho (show (v k).ownBlock = some g by rw [e]; rfl)
    exact ownsRow_setCell_other (ownsRow_setCell_other h.row (a := ⟨g, i * 2, none⟩) ha _) (a := ⟨g, i * 2 + 1, none⟩) ha _
  · by_cases ej : j = k
    · subst ej
      rw [if_pos rfl, e]
      rw [e, hc] at hp
      exact hp.store hi hx
    · rw [if_neg ej]
      have hne : (v j).ownBlock ≠ some g := fun e' => by
        rcases hap j k hj hk ej with q | q
        · rw [q] at e'; cases e'
        · rw [e', e] at q; exact q rfl
      exact ((h.pm j hj).setOther hne hni _).setOther hne hni2 _

theorem Pms.prefix {B : Nat} {w w' : World} {v0 : Value} {k n0 c g cap m : Nat} {Y : List StE} {news : List Value} (h0 : Pms B w v0 k n0 c) (hb : v0.ownBlock = some g) (hv : OwnSp B w (.slice (some ⟨g, 0, none⟩) Y.length cap) Y) (hn : n0 ≤ Y.length)
    (hv' : w'.ownsRow B 61 2 (.slice (some ⟨g, 0, none⟩) (Y.length + m) cap) (Y.length + m) (spC Y ++ news)) (hg : w.grownBy w' (some g)) : Pms B w' v0 k n0 c := by
  obtain ⟨Y0, ho, hl, hm⟩ := h0
  exact ⟨Y0, own_prefixz ho hb hv (by omega) hv', hl, hm.kept hg (fun g' e => by cases e; exact row_niz hv (by decide) g rfl)⟩

/-- beside them a row of grown ones -/
structure Gqs (Q : Nat → Prop) (B S : Nat) (w wr : World) (rv : Value) (K : Nat) (v : Nat → Value) (n : Nat → Nat) (gr : Value) (kr k : Nat) (u : Nat → Value) (m : Nat → Nat) : Prop where
  ap : Aqs Q B w wr rv K v n n
  grow : wr.ownsRow S 22 1 gr kr ((List.range kr).map u)
  gp : ∀ j, j < k → Pms B wr (u j) j (n j + 64) (m j)
  gb : ∀ j, j < k → (u j).ownBlock = (v j).ownBlock ∨ ∃ b, (u j).ownBlock = some b ∧ S ≤ b
  sz : S ≤ wr.heap.size
  hB : B ≤ S
  vb : ∀ j, j < K → ∀ b, (v j).ownBlock = some b → b < S
  rb : ∀ b, rv.ownBlock = some b → b < S
  hap : ∀ i j, i < K → j < K → i ≠ j → (v i).ownBlock = none ∨ (v i).ownBlock ≠ (v j).ownBlock
  hk : k ≤ K
  sw : w.heap.size ≤ S

theorem Gqs.step {Q : Nat → Prop} {B S : Nat} {w wr w' : World} {rv : Value} {K : Nat} {v : Nat → Value} {n : Nat → Nat} {gr : Value} {kr k : Nat} {u : Nat → Value} {m : Nat → Nat} {row : Option Nat} (h : Gqs Q B S w wr rv K v n gr kr k u m) (hg : wr.grownBy w' row)
    (hni : ∀ b, row = some b → NI wr b) (hrow : ∀ b, row = some b → B ≤ b) (hqq : ∀ b, row = some b → ¬ Q b) (hce : ∀ (j : Nat) (o : Obj), row = some j → wr.heap[j]? = some o → o.isCells = true) (hv : ∀ j, j < K → Pms B w' (v j) j (n j) (n j)) (hr : rv.ownBlock = none ∨ rv.ownBlock ≠ row) (hgr : gr.ownBlock = none ∨ gr.ownBlock ≠ row) (hu : ∀ j, j < k → (u j).ownBlock = none ∨ (u j).ownBlock ≠ row) :
    Gqs Q B S w w' rv K v n gr kr k u m :=
  ⟨⟨World.ownsRow.kept h.ap.row hg hr, hv, h.ap.bel.grown hg (Nat.le_trans h.hB h.sz) hrow, h.ap.ko.trans (KeepsOthers.of_grownBy hg hce), fun q hq => (hg.block q (Nat.lt_of_lt_of_le (h.ap.qs q hq) h.ap.bel.size) (fun e => hqq q e.symm hq)).trans (h.ap.kp q hq), h.ap.qv, h.ap.qs⟩, World.ownsRow.kept h.grow hg hgr, fun j hj => (h.gp j hj).kept hg (hu j hj) hni, h.gb, Nat.le_trans h.sz hg.size, h.hB, h.vb, h.rb, h.hap, h.hk, h.sw⟩
theorem Gqs.new {Q : Nat → Prop} {B S : Nat} {w wr w' : World} {rv : Value} {K : Nat} {v : Nat → Value} {n : Nat → Nat} {gr : Value} {kr k : Nat} {u : Nat → Value} {m : Nat → Nat} (h : Gqs Q B S w wr rv K v n gr kr k u m) (hg : wr.grownBy w' none) : Gqs Q B S w w' rv K v n gr kr k u m :=
  h.step hg no_row (fun b e => by cases e) (fun b e => by cases e) (fun j o e => by cases e) (fun j hj => (h.ap.pm j hj).kept hg (none_or _) no_row) (none_or _) (none_or _) (fun j hj => none_or _)

theorem Gqs.app {Q : Nat → Prop} {B S : Nat} {w wr wa w' : World} {rv : Value} {K : Nat} {v : Nat → Value} {n : Nat → Nat} {gr : Value} {kr k : Nat} {u : Nat → Value} {m : Nat → Nat} (h : Gqs Q B S w wr rv K v n gr kr k u m) (hk : k < K) {x x' : Value} {Sk : Nat} (hSk : S ≤ Sk) (hSw : Sk ≤ wr.heap.size)
    (huk : ∀ j, j < k → ∀ b, (u j).ownBlock = some b → b < Sk) {Y nz : List StE} (ho : OwnSp B wr x Y) (hN : n k ≤ Y.length) (hxb : x.ownBlock = (v k).ownBlock ∨ ∃ b, x.ownBlock = some b ∧ Sk ≤ b) (hga : wr.grownBy wa none) (hnz : 0 < nz.length)
    (h1 : w'.ownsRow B 61 2 x' (Y.length + nz.length) (spC Y ++ spC nz))
    (h2 : (∃ g cap, x = .slice (some ⟨g, 0, none⟩) Y.length cap ∧ x' = .slice (some ⟨g, 0, none⟩) (Y.length + nz.length) cap ∧ wa.grownBy w' (some g)) ∨ (w'.ownsRow wa.heap.size 61 2 x' (Y.length + nz.length) (spC Y ++ spC nz) ∧ wa.grownBy w' none)) :
    Gqs Q B S w w' rv K v n gr kr k u m ∧ OwnSp B w' x' (Y ++ nz) ∧ (∀ y Z, Own B wr y Z → Own B w' y Z) ∧ (x'.ownBlock = (v k).ownBlock ∨ ∃ b, x'.ownBlock = some b ∧ Sk ≤ b) := by
  have ha := h.new hga
  have hoa : OwnSp B wa x Y := World.ownsRow.kept ho hga (none_or _)
  have o1 : OwnSp B w' x' (Y ++ nz) := by
    unfold OwnSp
    rw [List.length_append, spC_append]
    exact h1
  rcases h2 with ⟨g, cap, rfl, rfl, hg⟩ | ⟨h3, hg⟩
  · have ex : (Value.slice (some ⟨g, 0, none⟩) Y.length cap).ownBlock = some g := rfl
    have ex' : (Value.slice (some ⟨g, 0, none⟩) (Y.length + nz.length) cap).ownBlock = some g := rfl
    have hBg : B ≤ g := (World.ownsRow.lt hoa g ex).1
    have hni : ∀ b, (some g : Option Nat) = some b → NI wa b := fun b e => by cases e; exact row_niz hoa (by decide) g ex
    rw [ex] at hxb
    have nr : rv.ownBlock ≠ some g := block_apart (by decide) ha.ap.row hoa ex
    have ngr : gr.ownBlock ≠ some g := block_apart (by decide) ha.grow hoa ex
    refine ⟨?_, o1, fun y Z hy => own_keptN (own_keptN hy hga no_row) hg hni, by rw [ex']; exact hxb⟩
    rcases hxb with q | ⟨b, q, hb⟩
    · refine ha.step hg hni (fun b e => by cases e; exact hBg) (fun b e => by cases e; exact h.ap.qv k hk _ q.symm) (fun j o e h => row_cells hoa j o (by rw [ex]; exact e) h) (fun j hj => ?_) (.inr nr) (.inr ngr) (fun j hj => ?_)
      · by_cases e : j = k
        · subst e
          exact (ha.ap.pm j hj).prefix q.symm hoa hN h1 hg
        · refine (ha.ap.pm j hj).kept hg ?_ hni
          have := h.hap j k hj hk e
          rwa [← q] at this
      · rcases h.gb j hj with q' | ⟨b, q', hb⟩
        · rw [q']
          have := h.hap j k (by omega) hk (by omega)
          rwa [← q] at this
        · refine .inr (fun e => ?_)
          rw [q'] at e
          cases e
          have := h.vb k hk _ q.symm
          omega
    · cases q
      refine ha.step hg hni (fun b e => by cases e; exact hBg) (fun b e hq => by cases e; have h7 := h.ap.qs _ hq; have h8 := h.sw; omega) (fun j o e h => row_cells hoa j o (by rw [ex]; exact e) h) (fun j hj => (ha.ap.pm j hj).kept hg (.inr fun e => ?_) hni) (.inr nr) (.inr ngr) (fun j hj => .inr fun e => ?_)
      · have := h.vb j hj _ e
        omega
      · have := huk j hj _ e
        omega
  · refine ⟨ha.new hg, o1, fun y Z hy => own_keptN (own_keptN hy hga no_row) hg no_row, .inr ?_⟩
    rcases h3.2 with ⟨_, hn⟩ | ⟨g, cap, cur, rfl, hb, _⟩
    · omega
    · have := hga.size
      exact ⟨g, rfl, by omega⟩

theorem Gqs.push {Q : Nat → Prop} {B S : Nat} {w wr wa w' : World} {rv : Value} {K : Nat} {v : Nat → Value} {n : Nat → Nat} {gr gr' : Value} {k : Nat} {u : Nat → Value} {m : Nat → Nat} (h : Gqs Q B S w wr rv K v n gr k k u m) (hk : k < K) {x : Value} (hga : wr.grownBy wa none)
    (own' : w'.ownsRow S 22 1 gr' (k + 1) ((List.range k).map u ++ [x])) (hg : wa.grownBy w' gr.ownBlock) (hx : Pms B wr x k (n k + 64) (m k)) (hxb : x.ownBlock = (v k).ownBlock ∨ ∃ b, x.ownBlock = some b ∧ S ≤ b) :
    Gqs Q B S w w' rv K v n gr' (k + 1) (k + 1) (fun j => if j < k then u j else x) m := by
  have ha := h.new hga
  have hxa := hx.kept hga (none_or _) no_row
  have keep : ∀ {y : Value} {a b c : Nat}, Pms B wa y a b c → Pms B w' y a b c := fun hp => by
    obtain ⟨Y, ho, hl, hm⟩ := hp
    exact ⟨Y, ownsRow_apart (by decide) ho ha.grow hg, hl, hm.kept hg (row_niz ha.grow (by decide))⟩
  have hgB : ∀ b, gr.ownBlock = some b → S ≤ b := fun b e => (World.ownsRow.lt ha.grow b e).1
  have hr : rv.ownBlock = none ∨ rv.ownBlock ≠ gr.ownBlock := by
    cases e : rv.ownBlock with
    | none => exact .inl rfl
    | some b => exact .inr fun e' => by have h1 := h.rb b e; have h2 := hgB b e'.symm; omega
  refine ⟨⟨World.ownsRow.kept ha.ap.row hg hr, fun j hj => keep (ha.ap.pm j hj), ha.ap.bel.grown hg (Nat.le_trans ha.hB ha.sz) (fun b e => Nat.le_trans h.hB (hgB b e)), ha.ap.ko.trans (KeepsOthers.of_grownBy hg (row_cells ha.grow)), fun q hq => (hg.block q (Nat.lt_of_lt_of_le (ha.ap.qs q hq) ha.ap.bel.size) (fun e => by have h7 := hgB q e.symm; have h8 := ha.ap.qs q hq; have h9 := h.sw; omega)).trans (ha.ap.kp q hq), h.ap.qv, h.ap.qs⟩, ?_, fun j hj => ?_, fun j hj => ?_, Nat.le_trans ha.sz hg.size, h.hB, h.vb, h.rb, h.hap, hk, h.sw⟩
  · have : (List.range (k + 1)).map (fun j => if j < k then u j else x) = (List.range k).map u ++ [x] := by
      rw [List.range_succ, List.map_append]
      simp only [List.map_cons, List.map_nil, Nat.lt_irrefl, if_false]
      congr 1
      exact List.map_congr_left fun j hj => by rw [if_pos (List.mem_range.1 hj)]
    rw [this]
    exact own'
  · by_cases e : j < k
    · rw [if_pos e]; exact keep (ha.gp j e)
    · obtain rfl : j = k := by omega
      rw [if_neg e]; exact keep hxa
  · by_cases e : j < k
    · rw [if_pos e]; exact h.gb j e
    · obtain rfl : j = k := by omega
      rw [if_neg e]; exact hxb

theorem Gqs.put {Q : Nat → Prop} {B S : Nat} {w wr : World} {rv : Value} {K : Nat} {v : Nat → Value} {n : Nat → Nat} {gg cap : Nat} {k : Nat} {u : Nat → Value} {m : Nat → Nat} (h : Gqs Q B S w wr rv K v n (.slice (some ⟨gg, 0, none⟩) K cap) K k u m) (hk : k < K) {x : Value}
    (hx : Pms B wr x k (n k + 64) (m k)) (hxb : x.ownBlock = (v k).ownBlock ∨ ∃ b, x.ownBlock = some b ∧ S ≤ b) :
    Gqs Q B S w (wr.setCell ⟨gg, k, none⟩ x) rv K v n (.slice (some ⟨gg, 0, none⟩) K cap) K (k + 1) (fun j => if j = k then x else u j) m := by
  obtain ⟨s1, s2⟩ := World.ownsRow.stored h.grow k x
  have hgS : S ≤ gg := (World.ownsRow.lt h.grow gg rfl).1
  have keep : ∀ {y : Value} {a b c : Nat}, Pms B wr y a b c → Pms B (wr.setCell ⟨gg, k, none⟩ x) y a b c := fun hp => by
    obtain ⟨Y, ho, hl, hm⟩ := hp
    exact ⟨Y, ownsRow_apart (by decide) ho h.grow s2, hl, hm.kept s2 (fun g e => by cases e; exact row_niz h.grow (by decide) gg rfl)⟩
  have hr : rv.ownBlock = none ∨ rv.ownBlock ≠ some gg := .inr fun e => by have := h.rb gg e; omega
  refine ⟨⟨World.ownsRow.kept h.ap.row s2 hr, fun j hj => keep (h.ap.pm j hj), h.ap.bel.setCell (p := ⟨gg, k, none⟩) (Nat.le_trans h.hB hgS) _, h.ap.ko.trans (KeepsOthers.setCell _ _ _), fun q hq => (heap_other (W := wr) ⟨gg, k, none⟩ _ (fun e9 => by have h7 : gg = q := e9; have h8 := h.ap.qs q hq; have h9 := h.sw; omega)).trans (h.ap.kp q hq), h.ap.qv, h.ap.qs⟩, ?_, fun j hj => ?_, fun j hj => ?_, Nat.le_trans h.sz s2.size, h.hB, h.vb, h.rb, h.hap, hk, h.sw⟩
  · have : ((List.range K).map u).set k x = (List.range K).map (fun j => if j = k then x else u j) := by
      apply List.ext_getElem?
      intro j
      rw [List.getElem?_set, List.getElem?_map, List.getElem?_map]
      by_cases e : k = j
      · subst e
        simp [hk]
      · have e' : ¬ j = k := fun h => e h.symm
        by_cases hj : j < K <;> simp [e, e', hj]
    rw [← this]
    exact s1
  · by_cases e : j = k
    · subst e; rw [if_pos rfl]; exact keep hx
    · rw [if_neg e]; exact keep (h.gp j (by omega))
  · by_cases e : j = k
    · subst e; rw [if_pos rfl]; exact hxb
    · rw [if_neg e]; exact h.gb j (by omega)

end Go.Proofs.YtilcokpaeapmeaaDoor
set_option linter.unusedSimpArgs false
set_option linter.unusedVariables false
namespace Go.Proofs.YtilcokpaeapmeaaDoor
open Go Go.RowKit Go.Shelf

attribute [local go_sem] Oper.semAt_some

/-- the marks behind a list that is lent -/
noncomputable def m64 : List Int := (List.range 64).map (mrk 0)
theorem m64_len : m64.length = 64 := by simp [m64]
theorem take_snoc {zs : List Int} {k : Nat} (hk : k < zs.length) : zs.take (k + 1) = zs.take k ++ [zs.getD k 0] := by
  rw [List.take_add_one, List.getD_eq_getElem?_getD]
  simp [hk]
theorem grow_one {B : Nat} {w wr w' : World} {u : Value} {n : Nat} {xs : List Value} {o : Obj} (bel : Below B w wr) (hB : B ≤ w.heap.size) (own : wr.ownsRow B 3 1 u n xs) (hg : (wr.alloc o).grownBy w' u.ownBlock) : Below B w w' :=
  (bel.alloc (Nat.le_trans hB bel.size) o).grown hg (Nat.le_trans hB (bel.alloc (Nat.le_trans hB bel.size) o).size) (fun b e => (World.ownsRow.lt own b e).1)
theorem row_slice1 {B K : Nat} {e : TypeId} {w : World} {x : Value} {xs : List Value} (h : w.ownsRow B e 1 x K xs) : ∃ a c, x = .slice a K c := by
  rcases h.2 with ⟨hv, hn⟩ | ⟨g, cap, cur, hv, _⟩
  · exact ⟨none, 0, by rw [hv, hn]⟩
  · exact ⟨_, _, hv⟩
theorem m64_take {k : Nat} (hk : k < 64) : (List.range (k + 1)).map (mrk 0) = (List.range k).map (mrk 0) ++ [mrk 0 k] := by
  rw [List.range_succ, List.map_append]; rfl

set_option maxRecDepth 100000 in
set_option maxHeartbeats 2000000 in
theorem lent_any (v : Value) (zs : List Int) (w : World) (hr : Rd w v zs) :
    Calls Tryd.prog 29 #[v] w fun e w' => ∃ v', e = .returned v' ∧ Own w.heap.size w' v' (zs ++ m64) ∧ Below w.heap.size w w' := by
  have hl := hr.len
  obtain ⟨i0, hi, hz0, hz1, hz2⟩ := info_parts Tryd.info3
  have HR : Hid (∀ W, Below w.heap.size w W → Rd W v zs) := fun W h => hr.below h
  obtain ⟨_, av, cv, rfl, -⟩ := id hr
  clear hr
  go_enter Tryd.func29, Tryd.ntmps29
  go_wp2
  go_loopg [3, 4] zs.length (fun g o i wr => ∃ (k : Nat) (ao : Option Addr) (co : Nat), k + g = zs.length ∧ o = .slice ao k co ∧ i = .int .i64 k ∧ wr.ownsRow w.heap.size 3 1 (.slice ao k co) k ((zs.take k).map (Value.int .i64)) ∧ Below w.heap.size w wr)
  case atStart => exact ⟨0, none, 0, by omega, rfl, rfl, World.ownsRow_nil _ _ _ _, Below.refl _ _⟩
  case round =>
  obtain ⟨k, ao, co, hk, rfl, rfl, own, bel⟩ := hrel
  have HK : Hid (k + gk = zs.length) := hk
  by_cases hlt : k < zs.length
  · obtain ⟨_, _, _, e, _, _, _, h2⟩ := HR.out wr bel
    cases e
    obtain ⟨b, off, e, hb, hcell⟩ := h2 (by intro h; rw [h] at hlt; simp at hlt)
    have hck := hcell k hlt
    subst e
    have HT : Hid (zs.take (k + 1) = zs.take k ++ [zs.getD k 0]) := take_snoc hlt
    have HOW : Hid (wr.ownsRow w.heap.size 3 1 (.slice ao k co) k ((zs.take k).map (Value.int .i64))) := own
    clear hcell h2 hk own
    generalize zs.getD k 0 = z at *
    obtain ⟨tk, htk⟩ : ∃ tk, (zs.take k).map (Value.int .i64) = tk := ⟨_, rfl⟩
    have HTK : Hid ((zs.take k).map (Value.int .i64) = tk) := htk
    rw [htk] at HOW
    clear htk
    have sw : w.heap.size ≤ wr.heap.size := bel.size
    go_wp2_with (at_builtin; refine wpList_append_own _ rfl _ _ 58 rfl w.heap.size 3 i0 (.int .i64 0) 1 8 Tryd.underlying58 hi hz0 hz1 hz2 rfl (by decide) _ k tk rfl (World.ownsRow.alloc HOW.out _) ⟨wr.heap.size, 0, none⟩ 1 1 [.int .i64 z] rfl rfl (cell_one_new _ _ _) (by simp [Value.oneCell']) (by unfold maxLen; omega) (by omega) (by simp; omega) ?_; intro x' w' own' gr2 hn')
    obtain ⟨ao', co', e'⟩ := row_slice1 own'
    subst e'
    have b' := grow_one bel (Nat.le_refl _) HOW.out gr2
    go_roundg (gk - 1)
    case measure => have := HK.out; omega
    case rel => exact ⟨k + 1, ao', co', by have := HK.out; omega, rfl, by go_num, by rw [HT.out, List.map_append, HTK.out]; exact own', b'⟩
  have e : k = zs.length := by omega
  subst e
  clear hk hlt HK
  rw [List.take_length] at own
  have OWN : Hid (wr.ownsRow w.heap.size 3 1 (.slice ao zs.length co) zs.length (zs.map (Value.int .i64))) := own
  have BEL : Hid (Below w.heap.size w wr) := bel
  clear own bel
  generalize wr = w2 at *
  go_wp2
  go_loopg [3, 5] 64 (fun g o i wr => ∃ (k : Nat) (ao : Option Addr) (co : Nat), k + g = 64 ∧ o = .slice ao (zs.length + k) co ∧ i = .int .i64 k ∧ wr.ownsRow w.heap.size 3 1 (.slice ao (zs.length + k) co) (zs.length + k) (zs.map (Value.int .i64) ++ ((List.range k).map (mrk 0)).map (Value.int .i64)) ∧ Below w.heap.size w wr)
  case atStart => exact ⟨0, ao, co, by omega, rfl, rfl, by simpa using OWN.out, BEL.out⟩
  case round =>
  clear OWN BEL
  obtain ⟨k, ao, co, hk, rfl, rfl, own, bel⟩ := hrel
  have HK : Hid (k + gk = 64) := hk
  by_cases hlt : k < 64
  · have HM : Hid (∀ W, Calls Tryd.prog 30 #[.int .i64 0, .int .i64 k] W fun e w' => e = .returned (.int .i64 (mrk 0 k)) ∧ w' = W) := fun W => mark_any 0 k W (by omega) (by omega)
    have HT : Hid ((List.range (k + 1)).map (mrk 0) = (List.range k).map (mrk 0) ++ [mrk 0 k]) := m64_take hlt
    have HOW : Hid (wr.ownsRow w.heap.size 3 1 (.slice ao (zs.length + k) co) (zs.length + k) (zs.map (Value.int .i64) ++ ((List.range k).map (mrk 0)).map (Value.int .i64))) := own
    clear hk own
    generalize mrk 0 k = z at *
    obtain ⟨tk, htk⟩ : ∃ tk, zs.map (Value.int .i64) ++ ((List.range k).map (mrk 0)).map (Value.int .i64) = tk := ⟨_, rfl⟩
    have HTK : Hid (zs.map (Value.int .i64) ++ ((List.range k).map (mrk 0)).map (Value.int .i64) = tk) := htk
    rw [htk] at HOW
    clear htk
    have sw : w.heap.size ≤ wr.heap.size := bel.size
    go_wp2_with fail
    refine (HM.out _).mono ?_
    rintro e wv ⟨rfl, hwv⟩
    rw [hwv]
    clear hwv wv
    go_wp2_with (at_builtin; refine wpList_append_own _ rfl _ _ 58 rfl w.heap.size 3 i0 (.int .i64 0) 1 8 Tryd.underlying58 hi hz0 hz1 hz2 rfl (by decide) _ (zs.length + k) tk rfl (World.ownsRow.alloc HOW.out _) ⟨wr.heap.size, 0, none⟩ 1 1 [.int .i64 z] rfl rfl (cell_one_new _ _ _) (by simp [Value.oneCell']) (by unfold maxLen; omega) (by omega) (by simp; omega) ?_; intro x' w' own' gr2 hn')
    obtain ⟨ao', co', e'⟩ := row_slice1 own'
    subst e'
    have b' := grow_one bel (Nat.le_refl _) HOW.out gr2
    go_roundg (gk - 1)
    case measure => have := HK.out; omega
    case rel => exact ⟨k + 1, ao', co', by have := HK.out; omega, rfl, by go_num, by rw [HT.out, List.map_append, ← List.append_assoc, HTK.out]; exact own', b'⟩
  have e : k = 64 := by omega
  subst e
  clear hk hlt HK
  have OWN : Hid (Own w.heap.size wr (.slice ao (zs.length + 64) co) (zs ++ m64)) := by
    show Own _ _ _ _
    unfold Own
    rw [List.length_append, m64_len, List.map_append]
    exact own
  clear own
  go_wp2
  go_ret
  exact ⟨_, rfl, OWN.out, bel⟩

theorem own_at {B : Nat} {w : World} {x : Value} {T : List Int} (h : Own B w x T) {i : Nat} (hi : i < T.length) : ∃ g cap, x = .slice (some ⟨g, 0, none⟩) T.length cap ∧ T.length ≤ cap ∧ w.cell? ⟨g, i, none⟩ = some (.int .i64 (T.getD i 0)) := by
  obtain ⟨g, cap, e, hH, hg, hbase, hncap, hmm⟩ := trown_holds h (by intro h; rw [h] at hi; simp at hi)
  refine ⟨g, cap, e, hncap, ?_⟩
  have := (hH i (by simpa using hi)).1
  simpa [List.getD_eq_getElem?_getD, getElem!_def, Array.getElem?_eq_getElem, hi] using this
theorem cell_app_left {B : Nat} {w : World} {x : Value} {zs ms : List Int} (h : Own B w x (zs ++ ms)) {i : Nat} (hi : i < zs.length) : ∃ g cap, x = .slice (some ⟨g, 0, none⟩) (zs.length + ms.length) cap ∧ zs.length + ms.length ≤ cap ∧ w.cell? ⟨g, i, none⟩ = some (.int .i64 (zs.getD i 0)) := by
  have hl : i < (zs ++ ms).length := by rw [List.length_append]; omega
  have e2 : (zs ++ ms).getD i 0 = zs.getD i 0 := by rw [List.getD_eq_getElem?_getD, List.getD_eq_getElem?_getD, List.getElem?_append_left hi]
  have := own_at h hl
  rwa [e2, List.length_append] at this
theorem cell_app_right {B : Nat} {w : World} {x : Value} {zs ms : List Int} (h : Own B w x (zs ++ ms)) {i : Nat} (hi : i < ms.length) : ∃ g cap, x = .slice (some ⟨g, 0, none⟩) (zs.length + ms.length) cap ∧ zs.length + ms.length ≤ cap ∧ w.cell? ⟨g, zs.length + i, none⟩ = some (.int .i64 (ms.getD i 0)) := by
  have hl : zs.length + i < (zs ++ ms).length := by rw [List.length_append]; omega
  have e2 : (zs ++ ms).getD (zs.length + i) 0 = ms.getD i 0 := by rw [List.getD_eq_getElem?_getD, List.getD_eq_getElem?_getD, List.getElem?_append_right (by omega), Nat.add_sub_cancel_left]
  have := own_at h hl
  rwa [e2, List.length_append] at this
theorem grown_setCell (w : World) (a : Addr) (u : Value) : w.grownBy (w.setCell a u) (some a.block) :=
  ⟨rfl, rfl, rfl, by simp, fun k _ hk => heap_setCell_other w a k u (fun e => hk (by simp [e]))⟩
theorem m64_at {i : Nat} (hi : i < 64) : m64.getD i 0 = mrk 0 i := by
  unfold m64
  rw [List.getD_eq_getElem?_getD, List.getElem?_map, List.getElem?_range hi]
  rfl

set_option maxRecDepth 100000 in
set_option maxHeartbeats 2000000 in
theorem kept_any (B : Nat) (x v : Value) (zs : List Int) (w : World) (ho : Own B w x (zs ++ m64)) (hr : Rd w v zs) :
    Calls Tryd.prog 35 #[x, v] w fun e w' => e = .returned (.bool true) ∧ Below w.heap.size w w' := by
  have hl := hr.len
  have HR : Hid (∀ W, Below w.heap.size w W → Rd W v zs) := fun W h => hr.below h
  have HO : Hid (∀ W, Below w.heap.size w W → Own B W x (zs ++ m64)) := fun W h => ho.below h
  obtain ⟨_, av, cv, rfl, -⟩ := id hr
  obtain ⟨ax, cx, e⟩ := row_slice1 ho
  rw [List.length_append, m64_len] at e
  subst e
  clear hr ho
  go_enter Tryd.func35, Tryd.ntmps35
  go_wp2
  go_loopg [5] zs.length (fun g i wr => ∃ k : Nat, k + g = zs.length ∧ i = .int .i64 k ∧ Below w.heap.size w wr)
  case atStart => exact ⟨0, by omega, rfl, Below.refl _ _⟩
  case round =>
  obtain ⟨k, hk, rfl, bel⟩ := hrel
  have HK : Hid (k + gk = zs.length) := hk
  by_cases hlt : k < zs.length
  · obtain ⟨_, _, _, e, _, _, _, h2⟩ := HR.out wr bel
    cases e
    obtain ⟨b, off, e, hb, hcell⟩ := h2 (by intro h; rw [h] at hlt; simp at hlt)
    have hck := hcell k hlt
    subst e
    obtain ⟨g, cap, e, hcap, hcg⟩ := cell_app_left (HO.out wr bel) hlt
    rw [m64_len] at e hcap
    cases e
    have BE : Hid (Below w.heap.size w wr) := bel
    clear hcell h2 hk bel
    generalize zs.getD k 0 = z at *
    go_wp2
    go_quiet (fail)
    go_wp2
    go_roundg (gk - 1)
    case measure => have := HK.out; omega
    case rel => exact ⟨k + 1, by have := HK.out; omega, by go_num, BE.out.trans ((below_drewN _ _).mono BE.out.size)⟩
  have e : k = zs.length := by omega
  subst e
  clear hk hlt HK
  have BEL : Hid (Below w.heap.size w wr) := bel
  clear bel
  generalize wr = w2 at *
  go_wp2
  go_loopg [6] 64 (fun g i wr => ∃ k : Nat, k + g = 64 ∧ i = .int .i64 k ∧ Below w.heap.size w wr)
  case atStart => exact ⟨0, by omega, rfl, BEL.out⟩
  case round =>
  obtain ⟨k, hk, rfl, bel⟩ := hrel
  have HK : Hid (k + gk = 64) := hk
  by_cases hlt : k < 64
  · obtain ⟨g, cap, e, hcap, hcg⟩ := cell_app_right (HO.out wr bel) (i := k) (by rw [m64_len]; exact hlt)
    rw [m64_len] at e hcap
    cases e
    rw [m64_at hlt] at hcg
    have HM : Hid (∀ W, Calls Tryd.prog 30 #[.int .i64 0, .int .i64 k] W fun e w' => e = .returned (.int .i64 (mrk 0 k)) ∧ w' = W) := fun W => mark_any 0 k W (by omega) (by omega)
    have BE : Hid (Below w.heap.size w wr) := bel
    clear hk bel
    generalize mrk 0 k = z at *
    go_wp2
    go_quiet ((go_at_call 30; exact Calls.quiet_of_same (HM.out _)))
    go_wp2
    go_roundg (gk - 1)
    case measure => have := HK.out; omega
    case rel => exact ⟨k + 1, by have := HK.out; omega, by go_num, BE.out.trans ((below_drewN _ _).mono BE.out.size)⟩
  have e : k = 64 := by omega
  subst e
  clear hk hlt HK
  go_wp2
  go_ret
  exact ⟨rfl, bel⟩

set_option maxRecDepth 100000 in
set_option maxHeartbeats 2000000 in
theorem over_any (B : Nat) (x : Value) (X : List Int) (w : World) (ho : Own B w x X) (hl : X.length ≤ 35184372088832) :
    Calls Tryd.prog 37 #[x] w fun e w' => (∃ v, e = .returned v) ∧ (∃ Z, Z.length = X.length ∧ Own B w' x Z) ∧ w.grownBy w' x.ownBlock := by
  obtain ⟨ax, cx, e⟩ := row_slice1 ho
  subst e
  have HO : Hid (Own B w (.slice ax X.length cx) X) := ho
  clear ho
  go_enter Tryd.func37, Tryd.ntmps37
  go_wp2
  go_loopg [2] X.length (fun g i wr => ∃ (k : Nat) (Y : List Int), k + g = X.length ∧ i = .int .i64 k ∧ Y.length = X.length ∧ Own B wr (.slice ax X.length cx) Y ∧ w.grownBy wr (Value.slice ax X.length cx).ownBlock)
  case atStart => exact ⟨0, X, by omega, rfl, rfl, HO.out, ⟨rfl, rfl, rfl, Nat.le_refl _, fun _ _ _ => rfl⟩⟩
  case round =>
  obtain ⟨k, Y, hk, rfl, hY, ho, hg⟩ := hrel
  have HK : Hid (k + gk = X.length) := hk
  by_cases hlt : k < X.length
  · obtain ⟨g, cap, y, e, hbg, hcap, hc1, hc2⟩ := Pm.place (k := 0) (c := 0) ⟨Y, ho, hY, fun t ht => by omega⟩ hlt
    simp only [Value.slice.injEq, true_and] at e
    obtain ⟨rfl, rfl⟩ := e
    have SX : Hid (∀ z, Own B (wr.setCell ⟨g, k, none⟩ (.int .i64 z)) (.slice (some ⟨g, 0, none⟩) X.length cx) (Y.set k z)) := fun z => own_store ho hY
    have SG : Hid (∀ z, w.grownBy (wr.setCell ⟨g, k, none⟩ z) (some g)) := fun z => hg.trans (grown_setCell wr ⟨g, k, none⟩ z)
    clear hk ho hg
    go_wp2
    go_roundg (gk - 1)
    case measure => have := HK.out; omega
    case rel => exact ⟨k + 1, _, by have := HK.out; omega, by go_num, by rw [List.length_set]; exact hY, SX.out _, SG.out _⟩
  have e : k = X.length := by omega
  subst e
  clear hk hlt HK
  go_wp2
  go_end0
  exact ⟨⟨_, rfl⟩, ⟨Y, hY, ho⟩, hg⟩

end Go.Proofs.YtilcokpaeapmeaaDoor
set_option linter.unusedSimpArgs false
set_option linter.unusedVariables false
namespace Go.Proofs.YtilcokpaeapmeaaDoor
open Go Go.RowKit Go.Shelf

attribute [local go_sem] Oper.semAt_some

theorem infoYt : (Tryd.prog.info? 5).map (fun i => (i.zero, i.size, i.bytes)) = some (some (.int .u8 0), 1, 1) := by kernel_rfl
theorem infoYr : (Tryd.prog.info? 44).map (fun i => (i.zero, i.size, i.bytes)) = some (some (.slice none 0 0), 1, 24) := by kernel_rfl
/-- a row of cells of whatever type but that of a row of lists -/
def Ory (w : World) (base : Nat) (v : Value) (n : Nat) (xs : List Value) : Prop :=
  xs.length = n ∧ ((v = .slice none 0 0 ∧ n = 0) ∨ ∃ g cap cur t, v = .slice (some ⟨g, 0, none⟩) n cap ∧ base ≤ g ∧ w.heap[g]? = some (.cells cur t (0, 0)) ∧ t ≠ 44 ∧ n ≤ cap ∧ cap ≤ maxLen ∧ cur.size = cap ∧ cur.toList.take n = xs)
/-- a list of truths in it -/
def Oby (base : Nat) (w : World) (v : Value) (Y : List Int) : Prop := Ory w base v Y.length (Y.map (Value.int .u8))
theorem Ory.of {w : World} {base : Nat} {e : TypeId} {v : Value} {n : Nat} {xs : List Value} (h : w.ownsRow base e 1 v n xs) (he : e ≠ 44) : Ory w base v n xs := by
  refine ⟨by have := h.1; omega, ?_⟩
  rcases h.2 with h0 | ⟨g, cap, cur, h1, h2, h3, h4, h5, h6, h7⟩
  · exact .inl h0
  · exact .inr ⟨g, cap, cur, e, h1, h2, h3, he, h4, h5, by omega, by rw [Nat.mul_one] at h7; exact h7⟩
theorem Ory.mono {w : World} {base base' : Nat} {v : Value} {n : Nat} {xs : List Value} (h : Ory w base v n xs) (hb : base' ≤ base) : Ory w base' v n xs := by
  refine ⟨h.1, ?_⟩
  rcases h.2 with h0 | ⟨g, cap, cur, t, h1, h2, r⟩
  · exact .inl h0
  · exact .inr ⟨g, cap, cur, t, h1, Nat.le_trans hb h2, r⟩
theorem Ory.kept {w w' : World} {base : Nat} {v : Value} {n : Nat} {xs : List Value} {row : Option Nat} (h : Ory w base v n xs) (hg : w.grownBy w' row) (hne : v.ownBlock = none ∨ v.ownBlock ≠ row) : Ory w' base v n xs := by
  refine ⟨h.1, ?_⟩
  rcases h.2 with h0 | ⟨g, cap, cur, t, rfl, h2, h3, r⟩
  · exact .inl h0
  · refine .inr ⟨g, cap, cur, t, rfl, h2, ?_, r⟩
    rw [hg.block g (Array.getElem?_eq_some_iff.1 h3).1 (fun e => ?_)]
    · exact h3
    · rcases hne with q | q
      · cases q
      · exact q e
theorem Ory.lt {w : World} {base : Nat} {v : Value} {n : Nat} {xs : List Value} (h : Ory w base v n xs) : ∀ b, v.ownBlock = some b → base ≤ b ∧ b < w.heap.size := fun b e => by
  rcases h.2 with ⟨rfl, _⟩ | ⟨g, cap, cur, t, rfl, h2, h3, r⟩
  · cases e
  · cases e
    exact ⟨h2, (Array.getElem?_eq_some_iff.1 h3).1⟩
theorem Ory.alloc {w : World} {base : Nat} {v : Value} {n : Nat} {xs : List Value} (h : Ory w base v n xs) (o : Obj) : Ory (w.alloc o) base v n xs := h.kept (World.grownBy_alloc _ _ none) (none_or _)
theorem Ory.other {w : World} {base g i : Nat} {v : Value} {n : Nat} {xs : List Value} (h : Ory w base v n xs) (hne : v.ownBlock ≠ some g) (x : Value) : Ory (w.setCell ⟨g, i, none⟩ x) base v n xs :=
  h.kept (grown_set w ⟨g, i, none⟩ x) (.inr hne)
theorem Ory.cells {w : World} {base : Nat} {v : Value} {n : Nat} {xs : List Value} (h : Ory w base v n xs) : ∀ (j : Nat) (o : Obj), v.ownBlock = some j → w.heap[j]? = some o → o.isCells = true := fun j o ej hj => by
  rcases h.2 with ⟨rfl, _⟩ | ⟨g, cap, cur, t, rfl, h2, h3, r⟩
  · cases ej
  · cases ej
    rw [h3] at hj
    cases hj
    rfl
theorem Ory.at {w : World} {base g cap n j : Nat} {xs : List Value} {a : Nat} (h : Ory w base (.slice (some ⟨g, 0, none⟩) a cap) n xs) (hj : j < n) : w.cell? ⟨g, j, none⟩ = xs[j]? ∧ w.frozen? ⟨g, j, none⟩ = false := by
  rcases h.2 with ⟨e, _⟩ | ⟨g', cap', cur, t, e, h2, h3, h4, h5, h6, h7, h8⟩
  · cases e
  · injection e with e1 e2 e3
    injection e1 with e1; injection e1 with e1
    subst e1
    refine ⟨?_, by simp [World.frozen?, h3]⟩
    rw [← h8, List.getElem?_take_of_lt hj]
    simp only [World.cell?, h3]
    simp
theorem Ory.form {w : World} {base n : Nat} {v : Value} {xs : List Value} (h : Ory w base v n xs) (hn : 0 < n) : ∃ g cap, v = .slice (some ⟨g, 0, none⟩) n cap ∧ base ≤ g ∧ n ≤ cap := by
  rcases h.2 with ⟨_, h0⟩ | ⟨g, cap, cur, t, e, h2, h3, h4, h5, _⟩
  · omega
  · exact ⟨g, cap, e, h2, h5⟩
theorem Ory.slice {w : World} {base n : Nat} {v : Value} {xs : List Value} (h : Ory w base v n xs) : ∃ a c, v = .slice a n c := by
  rcases h.2 with ⟨e, h0⟩ | ⟨g, cap, cur, t, e, _⟩
  · exact ⟨none, 0, by rw [e, h0]⟩
  · exact ⟨_, _, e⟩
/-- a row of lists lies apart from it -/
theorem Ory.apart {w w' : World} {base base' s n' : Nat} {v u : Value} {n : Nat} {xs xs' : List Value} (h : Ory w base v n xs) (hu : w.ownsRow base' 44 s u n' xs') (hg : w.grownBy w' u.ownBlock) : Ory w' base v n xs := by
  refine h.kept hg ?_
  rcases h.2 with ⟨rfl, _⟩ | ⟨g, cap, cur, t, rfl, h2, h3, h4, _⟩
  · exact .inl rfl
  · refine .inr (fun e => ?_)
    rcases hu.2 with ⟨rfl, _⟩ | ⟨g', cap', cur', rfl, _, hh', _⟩
    · cases e
    · cases e
      rw [h3] at hh'
      cases hh'
      exact h4 rfl
theorem block_apartY {w : World} {base base' s n n' g : Nat} {v u : Value} {xs xs' : List Value} (h : w.ownsRow base 44 s v n xs) (hu : Ory w base' u n' xs') (hg : u.ownBlock = some g) : v.ownBlock ≠ some g := by
  intro hv
  rcases h.2 with ⟨rfl, _⟩ | ⟨g1, cap, cur, rfl, hb', hh, r⟩
  · cases hv
  rcases hu.2 with ⟨rfl, _⟩ | ⟨g', cap', cur', t, rfl, _, hh', h4, _⟩
  · cases hg
  cases hv
  cases hg
  rw [hh] at hh'
  cases hh'
  exact h4 rfl
theorem Oby.store {base : Nat} {w : World} {g cap n m : Nat} {Y : List Int} {z : Int} (h : Oby base w (.slice (some ⟨g, 0, none⟩) n cap) Y) (hl : Y.length = n) (hm : m < n) :
    Oby base (w.setCell ⟨g, m, none⟩ (.int .u8 z)) (.slice (some ⟨g, 0, none⟩) n cap) (Y.set m z) := by
  rcases h.2 with ⟨e, _⟩ | ⟨g', cap', cur, t, hv, hb, hg, ht, h1, h2, h3, h4⟩
  · cases e
  · injection hv with ha hn hc
    injection ha with ha; injection ha with ha; subst ha; subst hc
    unfold Oby
    rw [List.length_set, List.map_set]
    refine ⟨by rw [List.length_set]; exact h.1, .inr ⟨g, cap, cur.setIfInBounds m (.int .u8 z), t, by rw [hl], hb, set_heap hg m _, ht, h1, h2, by simpa using h3, ?_⟩⟩
    rw [Array.toList_setIfInBounds, List.take_set, h4]
theorem own_prefixY {B B' : Nat} {w w' : World} {v0 : Value} {n0 n m g cap : Nat} {xs0 xs news : List Value} (h0 : Ory w B v0 n0 xs0) (hb : v0.ownBlock = some g) (hv : Ory w B' (.slice (some ⟨g, 0, none⟩) n cap) n xs) (hn : n0 ≤ n)
    (hv' : Ory w' B' (.slice (some ⟨g, 0, none⟩) (n + m) cap) (n + m) (xs ++ news)) : Ory w' B v0 n0 xs0 := by
  refine ⟨h0.1, ?_⟩
  rcases h0.2 with ⟨rfl, _⟩ | ⟨g0, cap0, cur, t, rfl, hbg, hg, hty, hnc, hcm, hcs, ht⟩
  · cases hb
  · cases hb
    rcases hv.2 with ⟨e1, _⟩ | ⟨g1, cap1, cur1, t1, e1, _, hg1, _, hnc1, hcm1, hcs1, ht1⟩
    · cases e1
    · cases e1
      rw [hg] at hg1
      cases hg1
      rcases hv'.2 with ⟨e2, _⟩ | ⟨g2, cap2, cur2, t2, e2, _, hg2, hty2, hnc2, hcm2, hcs2, ht2⟩
      · cases e2
      · cases e2
        refine .inr ⟨_, _, cur2, t2, rfl, hbg, hg2, hty2, hnc, hcm, by omega, ?_⟩
        have hx0 : xs0 = xs.take n0 := by rw [← ht, ← ht1, List.take_take]; congr 1; omega
        have hxl : xs.length = n := hv.1
        rw [hx0, show cur2.toList.take n0 = (cur2.toList.take (n + m)).take n0 by rw [List.take_take]; congr 1; omega, ht2, List.take_append_of_le_length (by omega)]
section
variable {P : Program} (w : World)
theorem run_append_roomY (t ty e t' : TypeId) (i : TypeInfo) (ht : P.underlying t = some (.slice e)) (hi : P.info? e = some i)
    (g sLen sCap : Nat) (cur : Array Value) (hg : w.heap[g]? = some (.cells cur t' (0, 0)))
    (a : Addr) (m c : Nat) (news : List Value) (hl : news.length = m * i.size) (hnews : ∀ j u, news[j]? = some u → w.cell? (a.add j) = some u) (h1 : ∀ u ∈ news, u.oneCell' = true)
    (hroom : sLen + m ≤ sCap) (hfit : sLen * i.size + news.length ≤ cur.size) :
    (Builtin.append_ #[t, t] ty #[.slice (some ⟨g, 0, none⟩) sLen sCap, .slice (some a) m c]).run P w =
      .ok (.slice (some ⟨g, 0, none⟩) (sLen + m) sCap) (w.setRow g (cur.toList.take (sLen * i.size) ++ news ++ cur.toList.drop (sLen * i.size + news.length)).toArray) := by
  have hf := run_firstCells_some (P := P) w i.size m a m c news hl hnews
  have hst := run_storeCells_at P g (sLen * i.size) t' news 0 cur w hg (by simpa using hfit) h1
  simp only [Nat.add_zero] at hst
  simp [Builtin.append_, run_underlying ht, sizeOf, typeInfo, hi, Builtin.lenOf, hroom, hf, Addr.add_lit, hst]
theorem run_append_twoY (base : Nat) (t ty e : TypeId) (i : TypeInfo) (z : Value) (bytes : Nat) (ht : P.underlying t = some (.slice e)) (hi : P.info? e = some i) (hz : i.zero = some z)
    (hsize : i.size = 1) (hby : i.bytes = bytes) (hzs : z.cells.size = 1) (hte : e ≠ 44)
    (v : Value) (n : Nat) (xs : List Value) (hown : Ory w base v n xs)
    (a : Addr) (m c : Nat) (news : List Value) (hl : news.length = m) (hnews : ∀ j u, news[j]? = some u → w.cell? (a.add j) = some u) (h1 : ∀ u ∈ news, u.oneCell' = true)
    (hm : 0 < m) (h63 : n + m ≤ maxLen) (hbytes : (n + m) * bytes ≤ 140737488355328) (hbase : base ≤ w.heap.size) :
    ∃ v' w', (Builtin.append_ #[t, t] ty #[v, .slice (some a) m c]).run P w = .ok v' w' ∧ Ory w' base v' (n + m) (xs ++ news) ∧
      ((∃ g cap, v = .slice (some ⟨g, 0, none⟩) n cap ∧ v' = .slice (some ⟨g, 0, none⟩) (n + m) cap ∧ w.grownBy w' (some g)) ∨ (Ory w' w.heap.size v' (n + m) (xs ++ news) ∧ w.grownBy w' none)) := by
  have hl1 : news.length = m * 1 := by omega
  have hlen : (xs ++ news).length = n + m := by rw [List.length_append, hown.1, hl]
  rcases hown.2 with ⟨rfl, rfl⟩ | ⟨g, cap, cur, t', rfl, hbg, hg, hty, hnc, hcm, hcs, htake⟩
  · have hx : xs = [] := List.eq_nil_of_length_eq_zero (by simpa using hown.1)
    subst hx
    obtain ⟨v', w', hr, h2, h3, -⟩ := run_append_own (P := P) w w.heap.size t ty e i z 1 bytes ht hi hz hsize hby hzs (by omega) (.slice none 0 0) 0 [] (World.ownsRow_nil w _ e 1) a m c news hl1 hnews h1 h63 hbytes (Nat.le_refl _)
    have h2' := Ory.of h2 hte
    exact ⟨v', w', hr, h2'.mono hbase, .inr ⟨h2', h3⟩⟩
  · by_cases hroom : n + m ≤ cap
    · have hfit : n * i.size + news.length ≤ cur.size := by rw [hl, hcs, hsize]; omega
      have hr := run_append_roomY (P := P) w t ty e t' i ht hi g n cap cur hg a m c news (by rw [hl, hsize]; omega) hnews h1 hroom hfit
      refine ⟨_, _, hr, ⟨hlen, .inr ⟨g, cap, _, t', rfl, hbg, setRow_heap w g cur _ t' _ hg, hty, hroom, hcm, ?_, ?_⟩⟩, .inl ⟨g, cap, rfl, rfl, ⟨rfl, rfl, rfl, by simp, fun k _ hk => setRow_other w g k _ (fun e => hk (by simp [e]))⟩⟩⟩
      · simp only [List.size_toArray, List.length_append, List.length_take, List.length_drop, Array.length_toList, hsize]
        omega
      · rw [hsize, Nat.mul_one, htake, ← hlen]
        exact List.take_left
    · have holds : ∀ j u, xs[j]? = some u → w.cell? ((⟨g, 0, none⟩ : Addr).add j) = some u := fun j u hj => by
        have hjn : j < n := by
          have := (List.getElem?_eq_some_iff.1 hj).1
          rw [hown.1] at this; exact this
        have h5 := (hown.at (g := g) (cap := cap) (a := n) hjn).1
        rw [hj] at h5
        have hadd : (⟨g, 0, none⟩ : Addr).add j = ⟨g, j, none⟩ := by unfold Addr.add; split <;> simp_all
        rw [hadd]
        exact h5
      obtain ⟨v', w', hrun, r1, r2⟩ := run_append_arg_grows (P := P) w t ty e i z 1 bytes ht hi hz hsize hby hzs (by omega) ⟨g, 0, none⟩ n cap xs (by rw [hown.1]; omega) holds a m c news hl1 hnews (by omega) h63 hbytes
      have r1' := Ory.of r1 hte
      exact ⟨v', w', hrun, r1'.mono hbase, .inr ⟨r1', r2⟩⟩
theorem wpList_append_twoY {ops : Array Oper} {rest : List Oper} {o : Oper} {a : Act} {Q : Exit → Act → World → Prop} (hgd : o.guard = none) (s x : Operand) (t : TypeId)
    (ho : o.op = .call { callee := .builtin .append, args := #[s, x], argTypes := #[t, t] })
    (base : Nat) (e : TypeId) (i : TypeInfo) (z : Value) (bytes : Nat) (ht : P.underlying t = some (.slice e)) (hi : P.info? e = some i) (hz : i.zero = some z)
    (hsize : i.size = 1) (hby : i.bytes = bytes) (hzs : z.cells.size = 1) (hte : e ≠ 44)
    (v : Value) (n : Nat) (xs : List Value) (hs : a.eval s = v) (hown : Ory w base v n xs)
    (ad : Addr) (m c : Nat) (news : List Value) (hx : a.eval x = .slice (some ad) m c) (hl : news.length = m) (hnews : ∀ j u, news[j]? = some u → w.cell? (ad.add j) = some u) (h1 : ∀ u ∈ news, u.oneCell' = true)
    (hm : 0 < m) (h63 : n + m ≤ maxLen) (hbytes : (n + m) * bytes ≤ 140737488355328) (hbase : base ≤ w.heap.size)
    (h : ∀ v' w', Ory w' base v' (n + m) (xs ++ news) →
      ((∃ g cap, v = .slice (some ⟨g, 0, none⟩) n cap ∧ v' = .slice (some ⟨g, 0, none⟩) (n + m) cap ∧ w.grownBy w' (some g)) ∨ (Ory w' w.heap.size v' (n + m) (xs ++ news) ∧ w.grownBy w' none)) → wpList P ops Q rest (a.put o.dst v') w') :
    wpList P ops Q (o :: rest) a w := by
  refine wpList_plain hgd fun K hK => ?_
  obtain ⟨v', w', hr, h2, h3⟩ := run_append_twoY (P := P) w base t o.type e i z bytes ht hi hz hsize hby hzs hte v n xs hown ad m c news hl hnews h1 hm h63 hbytes hbase
  unfold Oper.wp execOp
  simp only [ho, resolve, invoke, builtin, Sem.run_bind, Sem.run_pure, Result.andThen_ok, List.map_toArray, List.map_cons, List.map_nil, hs, hx, hr]
  exact hK _ _ (h v' w' h2 h3)
end
/-- the mark of a place -/
def mry (k i : Nat) : Int := (37 * (k : Int) + (i : Int)) % 256
/-- a list of n truths whose first c bear their marks -/
def Pby (B : Nat) (w : World) (v : Value) (k n c : Nat) : Prop := ∃ Y : List Int, Oby B w v Y ∧ Y.length = n ∧ ∀ t, t < c → Y.getD t 0 = mry k t
theorem Pby.slice {B : Nat} {w : World} {v : Value} {k n c : Nat} (h : Pby B w v k n c) : ∃ a cap, v = .slice a n cap := by
  obtain ⟨Y, ho, rfl, -⟩ := h
  exact Ory.slice ho
theorem Pby.place {B : Nat} {w : World} {v : Value} {k n c i : Nat} (h : Pby B w v k n c) (hi : i < n) : ∃ g cap y, v = .slice (some ⟨g, 0, none⟩) n cap ∧ B ≤ g ∧ n ≤ cap ∧ w.cell? ⟨g, i, none⟩ = some (.int .u8 y) ∧ w.frozen? ⟨g, i, none⟩ = false := by
  obtain ⟨Y, ho, rfl, -⟩ := h
  obtain ⟨g, cap, e, h1, h2⟩ := Ory.form ho (by omega)
  subst e
  have h3 := Ory.at ho hi
  exact ⟨g, cap, Y[i], rfl, h1, h2, by rw [h3.1]; simp [hi], h3.2⟩
theorem Pby.cell {B : Nat} {w : World} {v : Value} {k n c i : Nat} (h : Pby B w v k n c) (hi : i < n) (hc : i < c) : ∃ g cap, v = .slice (some ⟨g, 0, none⟩) n cap ∧ n ≤ cap ∧ w.cell? ⟨g, i, none⟩ = some (.int .u8 (mry k i)) := by
  obtain ⟨Y, ho, rfl, hm⟩ := h
  obtain ⟨g, cap, e, h1, h2⟩ := Ory.form ho (by omega)
  subst e
  have h3 := Ory.at ho hi
  refine ⟨g, cap, rfl, h2, ?_⟩
  rw [h3.1, ← hm i hc]
  simp [List.getD_eq_getElem?_getD, hi]
theorem Pby.store {B : Nat} {w : World} {g cap k n i : Nat} (h : Pby B w (.slice (some ⟨g, 0, none⟩) n cap) k n i) (hi : i < n) : Pby B (w.setCell ⟨g, i, none⟩ (.int .u8 (mry k i))) (.slice (some ⟨g, 0, none⟩) n cap) k n (i + 1) := by
  obtain ⟨Y, ho, hY, hm⟩ := h
  refine ⟨Y.set i (mry k i), Oby.store ho hY hi, by rw [List.length_set]; exact hY, fun t ht => ?_⟩
  by_cases e : t = i
  · subst e
    simp [List.getD_eq_getElem?_getD, List.getElem?_set, hY, hi]
  · have := hm t (by omega)
    simp only [List.getD_eq_getElem?_getD] at this ⊢
    rw [List.getElem?_set_ne (by omega)]
    exact this
theorem Pby.setOther {B : Nat} {w : World} {v : Value} {k n c g i : Nat} (h : Pby B w v k n c) (hne : v.ownBlock ≠ some g) (x : Value) : Pby B (w.setCell ⟨g, i, none⟩ x) v k n c := by
  obtain ⟨Y, ho, hY, hm⟩ := h
  exact ⟨Y, Ory.other ho hne x, hY, hm⟩
theorem Pby.kept {B : Nat} {w w' : World} {v : Value} {k n c : Nat} {row : Option Nat} (h : Pby B w v k n c) (hg : w.grownBy w' row) (hne : v.ownBlock = none ∨ v.ownBlock ≠ row) : Pby B w' v k n c := by
  obtain ⟨Y, ho, hY, hm⟩ := h
  exact ⟨Y, Ory.kept ho hg hne, hY, hm⟩
theorem Pby.less {B : Nat} {w : World} {v : Value} {k n c c' : Nat} (h : Pby B w v k n c) (hc : c' ≤ c) : Pby B w v k n c' := by
  obtain ⟨Y, ho, hY, hm⟩ := h
  exact ⟨Y, ho, hY, fun t ht => hm t (by omega)⟩
theorem Pby.lt {B : Nat} {w : World} {v : Value} {k n c : Nat} (h : Pby B w v k n c) : ∀ b, v.ownBlock = some b → B ≤ b ∧ b < w.heap.size := by
  obtain ⟨Y, ho, hY, hm⟩ := h
  exact Ory.lt ho

end Go.Proofs.YtilcokpaeapmeaaDoor
set_option linter.unusedSimpArgs false
set_option linter.unusedVariables false
namespace Go.Proofs.YtilcokpaeapmeaaDoor
open Go Go.RowKit Go.Shelf

structure Aby (Q : Nat → Prop) (B : Nat) (w wr : World) (rv : Value) (K : Nat) (v : Nat → Value) (n c : Nat → Nat) : Prop where
  row : wr.ownsRow B 44 1 rv K ((List.range K).map v)
  pm : ∀ j, j < K → Pby B wr (v j) j (n j) (c j)
  bel : Below B w wr
  ko : KeepsOthers w wr
  kp : ∀ k, Q k → wr.heap[k]? = w.heap[k]?
  qv : ∀ j, j < K → ∀ b, (v j).ownBlock = some b → ¬ Q b
  qs : ∀ k, Q k → k < w.heap.size
theorem Aby.weaken {Q : Nat → Prop} {B : Nat} {w wr : World} {rv : Value} {K : Nat} {v : Nat → Value} {n c c' : Nat → Nat} (h : Aby Q B w wr rv K v n c) (hc : ∀ j, j < K → c' j ≤ c j) : Aby Q B w wr rv K v n c' :=
  ⟨h.row, fun j hj => (h.pm j hj).less (hc j hj), h.bel, h.ko, h.kp, h.qv, h.qs⟩
theorem Aby.drew {Q : Nat → Prop} {B : Nat} {w wr : World} {rv : Value} {K : Nat} {v : Nat → Value} {n c : Nat → Nat} (h : Aby Q B w wr rv K v n c) : Aby Q B w wr.drew rv K v n c := ⟨h.row, h.pm, h.bel.drew, ⟨h.ko.size, h.ko.same⟩, h.kp, h.qv, h.qs⟩
theorem row_aty {B K k : Nat} {wr : World} {rv : Value} {v : Nat → Value} (h : wr.ownsRow B 44 1 rv K ((List.range K).map v)) (hk : k < K) :
    ∃ g cap, rv = .slice (some ⟨g, 0, none⟩) K cap ∧ K ≤ cap ∧ wr.cell? ⟨g, k, none⟩ = some (v k) := by
  rcases h.2 with ⟨_, hn⟩ | ⟨g, cap, cur, hv, hb, hh, hnc, hcm, hcs, ht⟩
  · omega
  · subst hv
    refine ⟨g, cap, rfl, hnc, (h.cellAt k (by omega)).trans ?_⟩
    simp [hk]
theorem Aby.mark {Q : Nat → Prop} {B : Nat} {w wr : World} {rv : Value} {K : Nat} {v : Nat → Value} {n c : Nat → Nat} (h : Aby Q B w wr rv K v n c)
    (hap : ∀ i j, i < K → j < K → i ≠ j → (v i).ownBlock = none ∨ (v i).ownBlock ≠ (v j).ownBlock) {k i : Nat} (hk : k < K) (hc : c k = i) (hi : i < n k) :
    ∃ g cap y, v k = .slice (some ⟨g, 0, none⟩) (n k) cap ∧ n k ≤ cap ∧ wr.cell? ⟨g, i, none⟩ = some (.int .u8 y) ∧ wr.frozen? ⟨g, i, none⟩ = false ∧
      Aby Q B w (wr.setCell ⟨g, i, none⟩ (.int .u8 (mry k i))) rv K v n (fun j => if j = k then i + 1 else c j) := by
  have hp := h.pm k hk
  obtain ⟨g, cap, y, e, hg, hcap, h1, h2⟩ := hp.place hi
  refine ⟨g, cap, y, e, hcap, h1, h2, ?_, fun j hj => ?_, h.bel.setCell (p := ⟨g, i, none⟩) hg _, h.ko.trans (KeepsOthers.setCell _ _ _), fun q hq => (heap_other (W := wr) ⟨g, i, none⟩ _ (fun e9 => h.qv k hk g (by rw [e]; rfl) (by rw [show g = q from e9]; exact hq))).trans (h.kp q hq), h.qv, h.qs⟩
  · obtain ⟨Y, ho, -, -⟩ := hp
    exact ownsRow_setCell_other h.row (a := ⟨g, i, none⟩) (block_apartY h.row ho (by rw [e]; rfl)) _
  · by_cases ej : j = k
    · subst ej
      rw [if_pos rfl, e]
      rw [e, hc] at hp
      exact hp.store hi
    · skip
      rw [if_neg ej]
      refine (h.pm j hj).setOther (fun e' => ?_) _
      rcases hap j k hj hk ej with q | q
      · rw [q] at e'; cases e'
      · rw [e', e] at q; exact q rfl

theorem Pby.prefix {B : Nat} {w w' : World} {v0 : Value} {k n0 c g cap m : Nat} {Y : List Int} {news : List Value} (h0 : Pby B w v0 k n0 c) (hb : v0.ownBlock = some g) (hv : Oby B w (.slice (some ⟨g, 0, none⟩) Y.length cap) Y) (hn : n0 ≤ Y.length)
    (hv' : Ory w' B (.slice (some ⟨g, 0, none⟩) (Y.length + m) cap) (Y.length + m) (Y.map (Value.int .u8) ++ news)) : Pby B w' v0 k n0 c := by
  obtain ⟨Y0, ho, hl, hm⟩ := h0
  exact ⟨Y0, own_prefixY (n0 := Y0.length) ho hb hv (by omega) hv', hl, hm⟩

/-- beside them a row of grown ones -/
structure Gby (Q : Nat → Prop) (B S : Nat) (w wr : World) (rv : Value) (K : Nat) (v : Nat → Value) (n : Nat → Nat) (gr : Value) (kr k : Nat) (u : Nat → Value) (m : Nat → Nat) : Prop where
  ap : Aby Q B w wr rv K v n n
  grow : wr.ownsRow S 44 1 gr kr ((List.range kr).map u)
  gp : ∀ j, j < k → Pby B wr (u j) j (n j + 64) (m j)
  gb : ∀ j, j < k → (u j).ownBlock = (v j).ownBlock ∨ ∃ b, (u j).ownBlock = some b ∧ S ≤ b
  sz : S ≤ wr.heap.size
  hB : B ≤ S
  vb : ∀ j, j < K → ∀ b, (v j).ownBlock = some b → b < S
  rb : ∀ b, rv.ownBlock = some b → b < S
  hap : ∀ i j, i < K → j < K → i ≠ j → (v i).ownBlock = none ∨ (v i).ownBlock ≠ (v j).ownBlock
  hk : k ≤ K
  sw : w.heap.size ≤ S

theorem Gby.step {Q : Nat → Prop} {B S : Nat} {w wr w' : World} {rv : Value} {K : Nat} {v : Nat → Value} {n : Nat → Nat} {gr : Value} {kr k : Nat} {u : Nat → Value} {m : Nat → Nat} {row : Option Nat} (h : Gby Q B S w wr rv K v n gr kr k u m) (hg : wr.grownBy w' row)
    (hrow : ∀ b, row = some b → B ≤ b) (hqq : ∀ b, row = some b → ¬ Q b) (hce : ∀ (j : Nat) (o : Obj), row = some j → wr.heap[j]? = some o → o.isCells = true) (hv : ∀ j, j < K → Pby B w' (v j) j (n j) (n j)) (hr : rv.ownBlock = none ∨ rv.ownBlock ≠ row) (hgr : gr.ownBlock = none ∨ gr.ownBlock ≠ row) (hu : ∀ j, j < k → (u j).ownBlock = none ∨ (u j).ownBlock ≠ row) :
    Gby Q B S w w' rv K v n gr kr k u m :=
  ⟨⟨World.ownsRow.kept h.ap.row hg hr, hv, h.ap.bel.grown hg (Nat.le_trans h.hB h.sz) hrow, h.ap.ko.trans (KeepsOthers.of_grownBy hg hce), fun q hq => (hg.block q (Nat.lt_of_lt_of_le (h.ap.qs q hq) h.ap.bel.size) (fun e => hqq q e.symm hq)).trans (h.ap.kp q hq), h.ap.qv, h.ap.qs⟩, World.ownsRow.kept h.grow hg hgr, fun j hj => (h.gp j hj).kept hg (hu j hj), h.gb, Nat.le_trans h.sz hg.size, h.hB, h.vb, h.rb, h.hap, h.hk, h.sw⟩
theorem Gby.new {Q : Nat → Prop} {B S : Nat} {w wr w' : World} {rv : Value} {K : Nat} {v : Nat → Value} {n : Nat → Nat} {gr : Value} {kr k : Nat} {u : Nat → Value} {m : Nat → Nat} (h : Gby Q B S w wr rv K v n gr kr k u m) (hg : wr.grownBy w' none) : Gby Q B S w w' rv K v n gr kr k u m :=
  h.step hg (fun b e => by cases e) (fun b e => by cases e) (fun j o e => by cases e) (fun j hj => (h.ap.pm j hj).kept hg (none_or _)) (none_or _) (none_or _) (fun j hj => none_or _)

theorem Gby.app {Q : Nat → Prop} {B S : Nat} {w wr wa w' : World} {rv : Value} {K : Nat} {v : Nat → Value} {n : Nat → Nat} {gr : Value} {kr k : Nat} {u : Nat → Value} {m : Nat → Nat} (h : Gby Q B S w wr rv K v n gr kr k u m) (hk : k < K) {x x' : Value} {Sk : Nat} (hSk : S ≤ Sk) (hSw : Sk ≤ wr.heap.size)
    (huk : ∀ j, j < k → ∀ b, (u j).ownBlock = some b → b < Sk) {Y nz : List Int} (ho : Oby B wr x Y) (hN : n k ≤ Y.length) (hxb : x.ownBlock = (v k).ownBlock ∨ ∃ b, x.ownBlock = some b ∧ Sk ≤ b) (hga : wr.grownBy wa none) (hnz : 0 < nz.length)
    (h1 : Ory w' B x' (Y.length + nz.length) (Y.map (Value.int .u8) ++ nz.map (Value.int .u8)))
    (h2 : (∃ g cap, x = .slice (some ⟨g, 0, none⟩) Y.length cap ∧ x' = .slice (some ⟨g, 0, none⟩) (Y.length + nz.length) cap ∧ wa.grownBy w' (some g)) ∨ (Ory w' wa.heap.size x' (Y.length + nz.length) (Y.map (Value.int .u8) ++ nz.map (Value.int .u8)) ∧ wa.grownBy w' none)) :
    Gby Q B S w w' rv K v n gr kr k u m ∧ Oby B w' x' (Y ++ nz) ∧ (x'.ownBlock = (v k).ownBlock ∨ ∃ b, x'.ownBlock = some b ∧ Sk ≤ b) := by
  have ha := h.new hga
  have hoa : Oby B wa x Y := Ory.kept ho hga (none_or _)
  have o1 : Oby B w' x' (Y ++ nz) := by
    unfold Oby
    rw [List.length_append, List.map_append]
    exact h1
  rcases h2 with ⟨g, cap, rfl, rfl, hg⟩ | ⟨h3, hg⟩
  · have ex : (Value.slice (some ⟨g, 0, none⟩) Y.length cap).ownBlock = some g := rfl
    have ex' : (Value.slice (some ⟨g, 0, none⟩) (Y.length + nz.length) cap).ownBlock = some g := rfl
    have hBg : B ≤ g := (Ory.lt hoa g ex).1
    rw [ex] at hxb
    have nr : rv.ownBlock ≠ some g := block_apartY ha.ap.row hoa ex
    have ngr : gr.ownBlock ≠ some g := block_apartY ha.grow hoa ex
    refine ⟨?_, o1, by rw [ex']; exact hxb⟩
    rcases hxb with q | ⟨b, q, hb⟩
    · refine ha.step hg (fun b e => by cases e; exact hBg) (fun b e => by cases e; exact h.ap.qv k hk _ q.symm) (fun j o e h => Ory.cells hoa j o (by rw [ex]; exact e) h) (fun j hj => ?_) (.inr nr) (.inr ngr) (fun j hj => ?_)
      · by_cases e : j = k
        · subst e
          exact (ha.ap.pm j hj).prefix q.symm hoa hN h1
        · refine (ha.ap.pm j hj).kept hg ?_
          have := h.hap j k hj hk e
          rwa [← q] at this
      · rcases h.gb j hj with q' | ⟨b, q', hb⟩
        · rw [q']
          have := h.hap j k (by omega) hk (by omega)
          rwa [← q] at this
        · refine .inr (fun e => ?_)
          rw [q'] at e
          cases e
          have := h.vb k hk _ q.symm
          omega
    · cases q
      refine ha.step hg (fun b e => by cases e; exact hBg) (fun b e hq => by cases e; have h7 := h.ap.qs _ hq; have h8 := h.sw; omega) (fun j o e h => Ory.cells hoa j o (by rw [ex]; exact e) h) (fun j hj => (ha.ap.pm j hj).kept hg (.inr fun e => ?_)) (.inr nr) (.inr ngr) (fun j hj => .inr fun e => ?_)
      · have := h.vb j hj _ e
        omega
      · have := huk j hj _ e
        omega
  · refine ⟨ha.new hg, o1, .inr ?_⟩
    rcases h3.2 with ⟨_, hn⟩ | ⟨g, cap, cur, t, rfl, hb, _⟩
    · omega
    · have := hga.size
      exact ⟨g, rfl, by omega⟩

theorem Gby.push {Q : Nat → Prop} {B S : Nat} {w wr wa w' : World} {rv : Value} {K : Nat} {v : Nat → Value} {n : Nat → Nat} {gr gr' : Value} {k : Nat} {u : Nat → Value} {m : Nat → Nat} (h : Gby Q B S w wr rv K v n gr k k u m) (hk : k < K) {x : Value} (hga : wr.grownBy wa none)
    (own' : w'.ownsRow S 44 1 gr' (k + 1) ((List.range k).map u ++ [x])) (hg : wa.grownBy w' gr.ownBlock) (hx : Pby B wr x k (n k + 64) (m k)) (hxb : x.ownBlock = (v k).ownBlock ∨ ∃ b, x.ownBlock = some b ∧ S ≤ b) :
    Gby Q B S w w' rv K v n gr' (k + 1) (k + 1) (fun j => if j < k then u j else x) m := by
  have ha := h.new hga
  have hxa := hx.kept hga (none_or _)
  have keep : ∀ {y : Value} {a b c : Nat}, Pby B wa y a b c → Pby B w' y a b c := fun hp => by
    obtain ⟨Y, ho, hl, hm⟩ := hp
    exact ⟨Y, Ory.apart ho ha.grow hg, hl, hm⟩
  have hgB : ∀ b, gr.ownBlock = some b → S ≤ b := fun b e => (World.ownsRow.lt ha.grow b e).1
  have hr : rv.ownBlock = none ∨ rv.ownBlock ≠ gr.ownBlock := by
    cases e : rv.ownBlock with
    | none => exact .inl rfl
    | some b => exact .inr fun e' => by have h1 := h.rb b e; have h2 := hgB b e'.symm; omega
  refine ⟨⟨World.ownsRow.kept ha.ap.row hg hr, fun j hj => keep (ha.ap.pm j hj), ha.ap.bel.grown hg (Nat.le_trans ha.hB ha.sz) (fun b e => Nat.le_trans h.hB (hgB b e)), ha.ap.ko.trans (KeepsOthers.of_grownBy hg (row_cells ha.grow)), fun q hq => (hg.block q (Nat.lt_of_lt_of_le (ha.ap.qs q hq) ha.ap.bel.size) (fun e => by have h7 := hgB q e.symm; have h8 := ha.ap.qs q hq; have h9 := h.sw; omega)).trans (ha.ap.kp q hq), h.ap.qv, h.ap.qs⟩, ?_, fun j hj => ?_, fun j hj => ?_, Nat.le_trans ha.sz hg.size, h.hB, h.vb, h.rb, h.hap, hk, h.sw⟩
  · have : (List.range (k + 1)).map (fun j => if j < k then u j else x) = (List.range k).map u ++ [x] := by
      rw [List.range_succ, List.map_append]
      simp only [List.map_cons, List.map_nil, Nat.lt_irrefl, if_false]
      congr 1
      exact List.map_congr_left fun j hj => by rw [if_pos (List.mem_range.1 hj)]
    rw [this]
    exact own'
  · by_cases e : j < k
    · rw [if_pos e]; exact keep (ha.gp j e)
    · obtain rfl : j = k := by omega
      rw [if_neg e]; exact keep hxa
  · by_cases e : j < k
    · rw [if_pos e]; exact h.gb j e
    · obtain rfl : j = k := by omega
      rw [if_neg e]; exact hxb

theorem Gby.put {Q : Nat → Prop} {B S : Nat} {w wr : World} {rv : Value} {K : Nat} {v : Nat → Value} {n : Nat → Nat} {gg cap : Nat} {k : Nat} {u : Nat → Value} {m : Nat → Nat} (h : Gby Q B S w wr rv K v n (.slice (some ⟨gg, 0, none⟩) K cap) K k u m) (hk : k < K) {x : Value}
    (hx : Pby B wr x k (n k + 64) (m k)) (hxb : x.ownBlock = (v k).ownBlock ∨ ∃ b, x.ownBlock = some b ∧ S ≤ b) :
    Gby Q B S w (wr.setCell ⟨gg, k, none⟩ x) rv K v n (.slice (some ⟨gg, 0, none⟩) K cap) K (k + 1) (fun j => if j = k then x else u j) m := by
  obtain ⟨s1, s2⟩ := World.ownsRow.stored h.grow k x
  have hgS : S ≤ gg := (World.ownsRow.lt h.grow gg rfl).1
  have keep : ∀ {y : Value} {a b c : Nat}, Pby B wr y a b c → Pby B (wr.setCell ⟨gg, k, none⟩ x) y a b c := fun hp => by
    obtain ⟨Y, ho, hl, hm⟩ := hp
    exact ⟨Y, Ory.apart ho h.grow s2, hl, hm⟩
  have hr : rv.ownBlock = none ∨ rv.ownBlock ≠ some gg := .inr fun e => by have := h.rb gg e; omega
  refine ⟨⟨World.ownsRow.kept h.ap.row s2 hr, fun j hj => keep (h.ap.pm j hj), h.ap.bel.setCell (p := ⟨gg, k, none⟩) (Nat.le_trans h.hB hgS) _, h.ap.ko.trans (KeepsOthers.setCell _ _ _), fun q hq => (heap_other (W := wr) ⟨gg, k, none⟩ _ (fun e9 => by have h7 : gg = q := e9; have h8 := h.ap.qs q hq; have h9 := h.sw; omega)).trans (h.ap.kp q hq), h.ap.qv, h.ap.qs⟩, ?_, fun j hj => ?_, fun j hj => ?_, Nat.le_trans h.sz s2.size, h.hB, h.vb, h.rb, h.hap, hk, h.sw⟩
  · have : ((List.range K).map u).set k x = (List.range K).map (fun j => if j = k then x else u j) := by
      apply List.ext_getElem?
      intro j
      rw [List.getElem?_set, List.getElem?_map, List.getElem?_map]
      by_cases e : k = j
      · subst e
        simp [hk]
      · have e' : ¬ j = k := fun h => e h.symm
        by_cases hj : j < K <;> simp [e, e', hj]
    rw [← this]
    exact s1
  · by_cases e : j = k
    · subst e; rw [if_pos rfl]; exact keep hx
    · rw [if_neg e]; exact keep (h.gp j (by omega))
  · by_cases e : j = k
    · subst e; rw [if_pos rfl]; exact hxb
    · rw [if_neg e]; exact h.gb j (by omega)

end Go.Proofs.YtilcokpaeapmeaaDoor
