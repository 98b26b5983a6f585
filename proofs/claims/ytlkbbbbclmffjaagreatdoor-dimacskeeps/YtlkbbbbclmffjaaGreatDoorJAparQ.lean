/-
  joined: AparQ AparQB AparB AparBB AparBW KitB KitQ LrW LrL LrK LrO
-/
import Derived.Test.YtlkbbbbclmffjaaGreatDoorKOwnH
import Derived.Shelf.Lay
import Derived.Maps.AppendAt
import Derived.ArgAppend
import Derived.OneCell
import Derived.BigQuiet
import Derived.Test.YtlkbbbbclmffjaaGreatDoorJTruth
import Derived.Test.YtlkbbbbclmffjaaGreatDoorJAppK
import Derived.Test.YtlkbbbbclmffjaaGreatDoorKCopy
import Derived.Test.YtlkbbbbclmffjaaGreatDoorKSmall
set_option linter.unusedSimpArgs false
set_option linter.unusedVariables false
namespace Go.Proofs.YtlkbbbbclmffjaaGreatDoor
open Go Go.RowKit Go.Shelf

attribute [local go_sem] Oper.semAt_some

theorem grown_of_below {w w' : World} (h : Below w.heap.size w w') : w.grownBy w' none := ⟨h.os, h.tape, h.output, h.size, fun k hk _ => h.block k hk⟩
theorem own_store {base : Nat} {w : World} {g cap n m : Nat} {Y : List Int} {z : Int} (h : Own base w (.slice (some ⟨g, 0, none⟩) n cap) Y) (hl : Y.length = n) :
    Own base (w.setCell ⟨g, m, none⟩ (.int .i64 z)) (.slice (some ⟨g, 0, none⟩) n cap) (Y.set m z) := by
  subst hl
  by_cases hm : m < Y.length
  · have h1 := own_cell (k := m) h (by omega) (.int .i64 z)
    unfold Own
    rw [List.length_set, List.map_set]
    exact h1
  · rw [List.set_eq_of_length_le (by omega)]
    rcases h.2 with ⟨e, _⟩ | ⟨g', cap', cur, hv, hb, hg, h1, h2, h3, h4⟩
    · simp at e
    · injection hv with ha _ hc
      injection ha with ha; injection ha with ha; subst ha; subst hc
      refine ⟨h.1, .inr ⟨g, cap, cur.setIfInBounds m (.int .i64 z), rfl, hb, set_heap hg m _, h1, h2, by simpa using h3, ?_⟩⟩
      rw [Array.toList_setIfInBounds, List.take_set, h4, List.set_eq_of_length_le (by simp; omega)]

section
variable {P : Program} (w : World)
/-- append onto a row of one's own: in its block, or in a new one -/
theorem run_append_two (base : Nat) (t ty e : TypeId) (i : TypeInfo) (z : Value) (bytes : Nat) (ht : P.underlying t = some (.slice e)) (hi : P.info? e = some i) (hz : i.zero = some z)
    (hsize : i.size = 1) (hby : i.bytes = bytes) (hzs : z.cells.size = 1)
    (v : Value) (n : Nat) (xs : List Value) (hown : w.ownsRow base e 1 v n xs)
    (a : Addr) (m c : Nat) (news : List Value) (hl : news.length = m) (hnews : ∀ j u, news[j]? = some u → w.cell? (a.add j) = some u) (h1 : ∀ u ∈ news, u.oneCell' = true)
    (hm : 0 < m) (h63 : n + m ≤ maxLen) (hbytes : (n + m) * bytes ≤ 140737488355328) (hbase : base ≤ w.heap.size) :
    ∃ v' w', (Builtin.append_ #[t, t] ty #[v, .slice (some a) m c]).run P w = .ok v' w' ∧ w'.ownsRow base e 1 v' (n + m) (xs ++ news) ∧
      ((∃ g cap, v = .slice (some ⟨g, 0, none⟩) n cap ∧ v' = .slice (some ⟨g, 0, none⟩) (n + m) cap ∧ w.grownBy w' (some g)) ∨ (w'.ownsRow w.heap.size e 1 v' (n + m) (xs ++ news) ∧ w.grownBy w' none)) := by
  have hl1 : news.length = m * 1 := by omega
  have hlen : (xs ++ news).length = (n + m) * 1 := by rw [List.length_append, hown.1, hl1, Nat.add_mul]
  have up : ∀ {v' : Value} {w' : World}, w'.ownsRow w.heap.size e 1 v' (n + m) (xs ++ news) → w'.ownsRow base e 1 v' (n + m) (xs ++ news) := fun h => by
    refine ⟨h.1, ?_⟩
    rcases h.2 with hn | ⟨g, cap, cur, hv, hb', hg, r⟩
    · exact .inl hn
    · exact .inr ⟨g, cap, cur, hv, Nat.le_trans hbase hb', hg, r⟩
  rcases hown.2 with ⟨rfl, rfl⟩ | ⟨g, cap, cur, rfl, hbg, hg, hnc, hcm, hcs, htake⟩
  · have hx : xs = [] := List.eq_nil_of_length_eq_zero (by simpa using hown.1)
    subst hx
    obtain ⟨v', w', hr, h2, h3, -⟩ := run_append_own (P := P) w w.heap.size t ty e i z 1 bytes ht hi hz hsize hby hzs (by omega) (.slice none 0 0) 0 [] (World.ownsRow_nil w _ e 1) a m c news hl1 hnews h1 h63 hbytes (Nat.le_refl _)
    exact ⟨v', w', hr, up h2, .inr ⟨h2, h3⟩⟩
  · by_cases hroom : n + m ≤ cap
    · have hfit : n * i.size + news.length ≤ cur.size := by rw [hl, hcs, hsize]; omega
      have hr := run_append_room (P := P) w t ty e i ht hi g n cap cur hg a m c news (by rw [hl, hsize]; omega) hnews h1 hroom hfit
      refine ⟨_, _, hr, ⟨hlen, .inr ⟨g, cap, _, rfl, hbg, setRow_heap w g cur _ e _ hg, hroom, hcm, ?_, ?_⟩⟩, .inl ⟨g, cap, rfl, rfl, ⟨rfl, rfl, rfl, by simp, fun k _ hk => setRow_other w g k _ (fun e => hk (by simp [e]))⟩⟩⟩
      · simp only [List.size_toArray, List.length_append, List.length_take, List.length_drop, Array.length_toList, hsize]
        omega
      · rw [hsize, htake, ← hlen]
        exact List.take_left
    · have holds : ∀ j u, xs[j]? = some u → w.cell? ((⟨g, 0, none⟩ : Addr).add j) = some u := hown.cells (g := g) rfl
      obtain ⟨v', w', hrun, r1, r2⟩ := run_append_arg_grows (P := P) w t ty e i z 1 bytes ht hi hz hsize hby hzs (by omega) ⟨g, 0, none⟩ n cap xs hown.1 holds a m c news hl1 hnews (by omega) h63 hbytes
      exact ⟨v', w', hrun, up r1, .inr ⟨r1, r2⟩⟩

theorem wpList_append_two {ops : Array Oper} {rest : List Oper} {o : Oper} {a : Act} {Q : Exit → Act → World → Prop} (hgd : o.guard = none) (s x : Operand) (t : TypeId)
    (ho : o.op = .call { callee := .builtin .append, args := #[s, x], argTypes := #[t, t] })
    (base : Nat) (e : TypeId) (i : TypeInfo) (z : Value) (bytes : Nat) (ht : P.underlying t = some (.slice e)) (hi : P.info? e = some i) (hz : i.zero = some z)
    (hsize : i.size = 1) (hby : i.bytes = bytes) (hzs : z.cells.size = 1)
    (v : Value) (n : Nat) (xs : List Value) (hs : a.eval s = v) (hown : w.ownsRow base e 1 v n xs)
    (ad : Addr) (m c : Nat) (news : List Value) (hx : a.eval x = .slice (some ad) m c) (hl : news.length = m) (hnews : ∀ j u, news[j]? = some u → w.cell? (ad.add j) = some u) (h1 : ∀ u ∈ news, u.oneCell' = true)
    (hm : 0 < m) (h63 : n + m ≤ maxLen) (hbytes : (n + m) * bytes ≤ 140737488355328) (hbase : base ≤ w.heap.size)
    (h : ∀ v' w', w'.ownsRow base e 1 v' (n + m) (xs ++ news) →
      ((∃ g cap, v = .slice (some ⟨g, 0, none⟩) n cap ∧ v' = .slice (some ⟨g, 0, none⟩) (n + m) cap ∧ w.grownBy w' (some g)) ∨ (w'.ownsRow w.heap.size e 1 v' (n + m) (xs ++ news) ∧ w.grownBy w' none)) → wpList P ops Q rest (a.put o.dst v') w') :
    wpList P ops Q (o :: rest) a w := by
  refine wpList_plain hgd fun K hK => ?_
  obtain ⟨v', w', hr, h2, h3⟩ := run_append_two (P := P) w base t o.type e i z bytes ht hi hz hsize hby hzs v n xs hown ad m c news hl hnews h1 hm h63 hbytes hbase
  unfold Oper.wp execOp
  simp only [ho, resolve, invoke, builtin, Sem.run_bind, Sem.run_pure, Result.andThen_ok, List.map_toArray, List.map_cons, List.map_nil, hs, hx, hr]
  exact hK _ _ (h v' w' h2 h3)
end

/-- a shorter row in the block of one that has grown there -/
theorem own_prefix {B B' : Nat} {e : TypeId} {w w' : World} {v0 : Value} {n0 n m g cap : Nat} {xs0 xs news : List Value} (h0 : w.ownsRow B e 1 v0 n0 xs0) (hb : v0.ownBlock = some g) (hv : w.ownsRow B' e 1 (.slice (some ⟨g, 0, none⟩) n cap) n xs) (hn : n0 ≤ n)
    (hv' : w'.ownsRow B' e 1 (.slice (some ⟨g, 0, none⟩) (n + m) cap) (n + m) (xs ++ news)) : w'.ownsRow B e 1 v0 n0 xs0 := by
  refine ⟨h0.1, ?_⟩
  rcases h0.2 with ⟨rfl, _⟩ | ⟨g0, cap0, cur, rfl, hbg, hg, hnc, hcm, hcs, ht⟩
  · cases hb
  · cases hb
    rcases hv.2 with ⟨e1, _⟩ | ⟨g1, cap1, cur1, e1, _, hg1, hnc1, hcm1, hcs1, ht1⟩
    · cases e1
    · cases e1
      rw [hg] at hg1
      cases hg1
      rcases hv'.2 with ⟨e2, _⟩ | ⟨g2, cap2, cur2, e2, _, hg2, hnc2, hcm2, hcs2, ht2⟩
      · cases e2
      · cases e2
        refine .inr ⟨_, _, cur2, rfl, hbg, hg2, hnc, hcm, by omega, ?_⟩
        have hx0 : xs0 = xs.take (n0 * 1) := by rw [← ht, ← ht1, List.take_take]; congr 1; omega
        have hxl : xs.length = n := by have := hv.1; omega
        rw [hx0, show cur2.toList.take (n0 * 1) = (cur2.toList.take ((n + m) * 1)).take (n0 * 1) by rw [List.take_take]; congr 1; omega, ht2, List.take_append_of_le_length (by omega)]

/-- rows of unlike types lie apart -/
theorem ownsRow_apart {base base' e e' s s' : Nat} {w w' : World} {v u : Value} {n n' : Nat} {xs xs' : List Value} (hne : e ≠ e') (h : w.ownsRow base e s v n xs) (hu : w.ownsRow base' e' s' u n' xs') (hg : w.grownBy w' u.ownBlock) : w'.ownsRow base e s v n xs := by
  refine ⟨h.1, ?_⟩
  rcases h.2 with hn | ⟨g, cap, cur, hv, hb', hh, r⟩
  · exact .inl hn
  · refine .inr ⟨g, cap, cur, hv, hb', ?_, r⟩
    rw [hg.block g (Array.getElem?_eq_some_iff.1 hh).1 (fun e => ?_)]
    · exact hh
    · rcases hu.2 with ⟨hn, _⟩ | ⟨g', cap', cur', hv', _, hh', _⟩
      · subst hn; cases e
      · subst hv'
        have e' : g' = g := by simpa [Value.ownBlock] using e.symm
        subst e'
        rw [hh] at hh'
        cases hh'
        exact hne rfl
theorem block_apart {base base' e e' s s' : Nat} {w : World} {v u : Value} {n n' g : Nat} {xs xs' : List Value} (hne : e ≠ e') (h : w.ownsRow base e s v n xs) (hu : w.ownsRow base' e' s' u n' xs') (hg : u.ownBlock = some g) : v.ownBlock ≠ some g := by
  intro hv
  rcases h.2 with ⟨rfl, _⟩ | ⟨g1, cap, cur, rfl, hb', hh, r⟩
  · cases hv
  rcases hu.2 with ⟨rfl, _⟩ | ⟨g', cap', cur', rfl, _, hh', _⟩
  · cases hg
  simp only [Value.ownBlock, Option.map_some, Option.some.injEq] at hv hg
  subst hv
  subst hg
  rw [hh] at hh'
  cases hh'
  exact hne rfl

/-- the mark of a place -/
theorem mrk_ex : ∃ f : Nat → Nat → Int, ∀ k i : Nat, f k i = wrap64 (wrap64 (1000003 * ((k : Int) + 7)) + (i : Int)) := ⟨_, fun _ _ => rfl⟩
noncomputable def mrk : Nat → Nat → Int := Classical.choose mrk_ex
theorem mrk_eq (k i : Nat) : mrk k i = wrap64 (wrap64 (1000003 * ((k : Int) + 7)) + (i : Int)) := Classical.choose_spec mrk_ex k i
theorem mark_any (k i : Nat) (w : World) (hk : k ≤ 9007199254740992) (hi : i ≤ 35184372088832) :
    Calls Tryz.prog 18 #[.int .i64 k, .int .i64 i] w fun e w' => e = .returned (.int .i64 (mrk k i)) ∧ w' = w := by
  have HE : Hid (mrk k i = wrap64 (wrap64 (1000003 * ((k : Int) + 7)) + (i : Int))) := mrk_eq k i
  go_enter Tryz.func18, Tryz.ntmps18
  go_wp2
  go_ret
  exact ⟨by rw [HE.out]; rfl, rfl⟩

/-- a list of n numbers of the call's own whose first c bear their marks -/
def Pm (B : Nat) (w : World) (v : Value) (k n c : Nat) : Prop := ∃ Y : List Int, Own B w v Y ∧ Y.length = n ∧ ∀ t, t < c → Y.getD t 0 = mrk k t
theorem Pm.slice {B : Nat} {w : World} {v : Value} {k n c : Nat} (h : Pm B w v k n c) : ∃ a cap, v = .slice a n cap := by
  obtain ⟨Y, ho, rfl, -⟩ := h
  rcases ho.2 with ⟨rfl, hn⟩ | ⟨g, cap, cur, hv, _⟩
  · exact ⟨none, 0, by rw [hn]⟩
  · exact ⟨_, _, hv⟩
theorem Pm.place {B : Nat} {w : World} {v : Value} {k n c i : Nat} (h : Pm B w v k n c) (hi : i < n) : ∃ g cap y, v = .slice (some ⟨g, 0, none⟩) n cap ∧ B ≤ g ∧ n ≤ cap ∧ w.cell? ⟨g, i, none⟩ = some (.int .i64 y) ∧ w.frozen? ⟨g, i, none⟩ = false := by
  obtain ⟨Y, ho, rfl, -⟩ := h
  have hne : Y ≠ [] := by intro e; rw [e] at hi; simp at hi
  obtain ⟨g, cap, e, hH, hg, hbase, hncap, hmm⟩ := trown_holds ho hne
  refine ⟨g, cap, Y.getD i 0, e, hbase, hncap, ?_, ?_⟩
  · have := (hH i (by simpa using hi)).1
    simpa [List.getD_eq_getElem?_getD, getElem!_def, Array.getElem?_eq_getElem, hi] using this
  · have := (hH i (by simpa using hi)).2
    simpa using this
theorem Pm.cell {B : Nat} {w : World} {v : Value} {k n c i : Nat} (h : Pm B w v k n c) (hi : i < n) (hc : i < c) : ∃ g cap, v = .slice (some ⟨g, 0, none⟩) n cap ∧ n ≤ cap ∧ w.cell? ⟨g, i, none⟩ = some (.int .i64 (mrk k i)) := by
  obtain ⟨Y, ho, rfl, hm⟩ := h
  have hne : Y ≠ [] := by intro e; rw [e] at hi; simp at hi
  obtain ⟨g, cap, e, hH, hg, hbase, hncap, hmm⟩ := trown_holds ho hne
  refine ⟨g, cap, e, hncap, ?_⟩
  rw [← hm i hc]
  have := (hH i (by simpa using hi)).1
  simpa [List.getD_eq_getElem?_getD, getElem!_def, Array.getElem?_eq_getElem, hi] using this
theorem Pm.store {B : Nat} {w : World} {g cap k n i : Nat} (h : Pm B w (.slice (some ⟨g, 0, none⟩) n cap) k n i) (hi : i < n) : Pm B (w.setCell ⟨g, i, none⟩ (.int .i64 (mrk k i))) (.slice (some ⟨g, 0, none⟩) n cap) k n (i + 1) := by
  obtain ⟨Y, ho, hY, hm⟩ := h
  refine ⟨Y.set i (mrk k i), own_store ho hY, by rw [List.length_set]; exact hY, fun t ht => ?_⟩
  by_cases e : t = i
  · subst e
    simp [List.getD_eq_getElem?_getD, List.getElem?_set, hY, hi]
  · have := hm t (by omega)
    simp only [List.getD_eq_getElem?_getD] at this ⊢
    rw [List.getElem?_set_ne (by omega)]
    exact this
theorem Pm.setOther {B : Nat} {w : World} {v : Value} {k n c g i : Nat} (h : Pm B w v k n c) (hne : v.ownBlock ≠ some g) (x : Value) : Pm B (w.setCell ⟨g, i, none⟩ x) v k n c := by
  obtain ⟨Y, ho, hY, hm⟩ := h
  exact ⟨Y, ownsRow_setCell_other ho (a := ⟨g, i, none⟩) hne x, hY, hm⟩
theorem Pm.kept {B : Nat} {w w' : World} {v : Value} {k n c : Nat} {row : Option Nat} (h : Pm B w v k n c) (hg : w.grownBy w' row) (hne : v.ownBlock = none ∨ v.ownBlock ≠ row) : Pm B w' v k n c := by
  obtain ⟨Y, ho, hY, hm⟩ := h
  exact ⟨Y, World.ownsRow.kept ho hg hne, hY, hm⟩
theorem Pm.less {B : Nat} {w : World} {v : Value} {k n c c' : Nat} (h : Pm B w v k n c) (hc : c' ≤ c) : Pm B w v k n c' := by
  obtain ⟨Y, ho, hY, hm⟩ := h
  exact ⟨Y, ho, hY, fun t ht => hm t (by omega)⟩
theorem Pm.lt {B : Nat} {w : World} {v : Value} {k n c : Nat} (h : Pm B w v k n c) : ∀ b, v.ownBlock = some b → B ≤ b ∧ b < w.heap.size := by
  obtain ⟨Y, ho, hY, hm⟩ := h
  exact World.ownsRow.lt ho

end Go.Proofs.YtlkbbbbclmffjaaGreatDoor
set_option linter.unusedSimpArgs false
set_option linter.unusedVariables false
namespace Go.Proofs.YtlkbbbbclmffjaaGreatDoor
open Go Go.RowKit Go.Shelf

/-- a row of lists that lie apart, the first places of each marked -/
theorem heap_other {W : World} {k : Nat} (a : Addr) (v : Value) (ha : a.block ≠ k) : (W.setCell a v).heap[k]? = W.heap[k]? := by
  show (W.heap.modify a.block _)[k]? = _
  rw [Array.getElem?_modify, if_neg ha]
structure Aq (Q : Nat → Prop) (B : Nat) (w wr : World) (rv : Value) (K : Nat) (v : Nat → Value) (n c : Nat → Nat) : Prop where
  row : wr.ownsRow B 43 1 rv K ((List.range K).map v)
  pm : ∀ j, j < K → Pm B wr (v j) j (n j) (c j)
  bel : Below B w wr
  ko : KeepsOthers w wr
  kp : ∀ k, Q k → wr.heap[k]? = w.heap[k]?
  qv : ∀ j, j < K → ∀ b, (v j).ownBlock = some b → ¬ Q b
  qs : ∀ k, Q k → k < w.heap.size
theorem row_cells {base e s : Nat} {w : World} {v : Value} {n : Nat} {xs : List Value} (h : w.ownsRow base e s v n xs) : ∀ (j : Nat) (o : Obj), v.ownBlock = some j → w.heap[j]? = some o → o.isCells = true := fun j o ej hj => by
  rcases h.2 with ⟨rfl, _⟩ | ⟨g, cap, cur, rfl, _, hgb, _⟩
  · cases ej
  · cases ej
    rw [hgb] at hj
    cases hj
    rfl
theorem Aq.weaken {Q : Nat → Prop} {B : Nat} {w wr : World} {rv : Value} {K : Nat} {v : Nat → Value} {n c c' : Nat → Nat} (h : Aq Q B w wr rv K v n c) (hc : ∀ j, j < K → c' j ≤ c j) : Aq Q B w wr rv K v n c' :=
  ⟨h.row, fun j hj => (h.pm j hj).less (hc j hj), h.bel, h.ko, h.kp, h.qv, h.qs⟩
theorem Aq.drew {Q : Nat → Prop} {B : Nat} {w wr : World} {rv : Value} {K : Nat} {v : Nat → Value} {n c : Nat → Nat} (h : Aq Q B w wr rv K v n c) : Aq Q B w wr.drew rv K v n c := ⟨h.row, h.pm, h.bel.drew, ⟨h.ko.size, h.ko.same⟩, h.kp, h.qv, h.qs⟩
theorem row_at {B K k : Nat} {wr : World} {rv : Value} {v : Nat → Value} (h : wr.ownsRow B 43 1 rv K ((List.range K).map v)) (hk : k < K) :
    ∃ g cap, rv = .slice (some ⟨g, 0, none⟩) K cap ∧ K ≤ cap ∧ wr.cell? ⟨g, k, none⟩ = some (v k) := by
  rcases h.2 with ⟨_, hn⟩ | ⟨g, cap, cur, hv, hb, hh, hnc, hcm, hcs, ht⟩
  · omega
  · subst hv
    refine ⟨g, cap, rfl, hnc, (h.cellAt k (by omega)).trans ?_⟩
    simp [hk]
theorem Aq.mark {Q : Nat → Prop} {B : Nat} {w wr : World} {rv : Value} {K : Nat} {v : Nat → Value} {n c : Nat → Nat} (h : Aq Q B w wr rv K v n c)
    (hap : ∀ i j, i < K → j < K → i ≠ j → (v i).ownBlock = none ∨ (v i).ownBlock ≠ (v j).ownBlock) {k i : Nat} (hk : k < K) (hc : c k = i) (hi : i < n k) :
    ∃ g cap y, v k = .slice (some ⟨g, 0, none⟩) (n k) cap ∧ n k ≤ cap ∧ wr.cell? ⟨g, i, none⟩ = some (.int .i64 y) ∧ wr.frozen? ⟨g, i, none⟩ = false ∧
      Aq Q B w (wr.setCell ⟨g, i, none⟩ (.int .i64 (mrk k i))) rv K v n (fun j => if j = k then i + 1 else c j) := by
  have hp := h.pm k hk
  obtain ⟨g, cap, y, e, hg, hcap, h1, h2⟩ := hp.place hi
  refine ⟨g, cap, y, e, hcap, h1, h2, ?_, fun j hj => ?_, h.bel.setCell (p := ⟨g, i, none⟩) hg _, h.ko.trans (KeepsOthers.setCell _ _ _), fun q hq => (heap_other (W := wr) ⟨g, i, none⟩ _ (fun e9 => h.qv k hk g (by rw [e]; rfl) (by rw [show g = q from e9]; exact hq))).trans (h.kp q hq), h.qv, h.qs⟩
  · obtain ⟨Y, ho, -, -⟩ := hp
    exact ownsRow_setCell_other h.row (a := ⟨g, i, none⟩) (block_apart (by decide) h.row ho (by rw [e]; rfl)) _
  · by_cases ej : j = k
    · subst ej
      rw [if_pos rfl, e]
      rw [e, hc] at hp
      exact hp.store hi
    · skip
      rw [if_neg ej]
      refine (h.pm j hj).setOther (fun e' => ?_) _
      rcases hap j k hj hk ej with q | q
      · rw [q] at e'; cases e'
      · rw [e', e] at q; exact q rfl

theorem Pm.prefix {B : Nat} {w w' : World} {v0 : Value} {k n0 c g cap m : Nat} {Y : List Int} {news : List Value} (h0 : Pm B w v0 k n0 c) (hb : v0.ownBlock = some g) (hv : Own B w (.slice (some ⟨g, 0, none⟩) Y.length cap) Y) (hn : n0 ≤ Y.length)
    (hv' : w'.ownsRow B 3 1 (.slice (some ⟨g, 0, none⟩) (Y.length + m) cap) (Y.length + m) (Y.map (Value.int .i64) ++ news)) : Pm B w' v0 k n0 c := by
  obtain ⟨Y0, ho, hl, hm⟩ := h0
  exact ⟨Y0, own_prefix (n0 := Y0.length) ho hb hv (by omega) hv', hl, hm⟩

/-- beside them a row of grown ones -/
structure Gq (Q : Nat → Prop) (B S : Nat) (w wr : World) (rv : Value) (K : Nat) (v : Nat → Value) (n : Nat → Nat) (gr : Value) (kr k : Nat) (u : Nat → Value) (m : Nat → Nat) : Prop where
  ap : Aq Q B w wr rv K v n n
  grow : wr.ownsRow S 43 1 gr kr ((List.range kr).map u)
  gp : ∀ j, j < k → Pm B wr (u j) j (n j + 64) (m j)
  gb : ∀ j, j < k → (u j).ownBlock = (v j).ownBlock ∨ ∃ b, (u j).ownBlock = some b ∧ S ≤ b
  sz : S ≤ wr.heap.size
  hB : B ≤ S
  vb : ∀ j, j < K → ∀ b, (v j).ownBlock = some b → b < S
  rb : ∀ b, rv.ownBlock = some b → b < S
  hap : ∀ i j, i < K → j < K → i ≠ j → (v i).ownBlock = none ∨ (v i).ownBlock ≠ (v j).ownBlock
  hk : k ≤ K
  sw : w.heap.size ≤ S

theorem Gq.step {Q : Nat → Prop} {B S : Nat} {w wr w' : World} {rv : Value} {K : Nat} {v : Nat → Value} {n : Nat → Nat} {gr : Value} {kr k : Nat} {u : Nat → Value} {m : Nat → Nat} {row : Option Nat} (h : Gq Q B S w wr rv K v n gr kr k u m) (hg : wr.grownBy w' row)
    (hrow : ∀ b, row = some b → B ≤ b) (hqq : ∀ b, row = some b → ¬ Q b) (hce : ∀ (j : Nat) (o : Obj), row = some j → wr.heap[j]? = some o → o.isCells = true) (hv : ∀ j, j < K → Pm B w' (v j) j (n j) (n j)) (hr : rv.ownBlock = none ∨ rv.ownBlock ≠ row) (hgr : gr.ownBlock = none ∨ gr.ownBlock ≠ row) (hu : ∀ j, j < k → (u j).ownBlock = none ∨ (u j).ownBlock ≠ row) :
    Gq Q B S w w' rv K v n gr kr k u m :=
  ⟨⟨World.ownsRow.kept h.ap.row hg hr, hv, h.ap.bel.grown hg (Nat.le_trans h.hB h.sz) hrow, h.ap.ko.trans (KeepsOthers.of_grownBy hg hce), fun q hq => (hg.block q (Nat.lt_of_lt_of_le (h.ap.qs q hq) h.ap.bel.size) (fun e => hqq q e.symm hq)).trans (h.ap.kp q hq), h.ap.qv, h.ap.qs⟩, World.ownsRow.kept h.grow hg hgr, fun j hj => (h.gp j hj).kept hg (hu j hj), h.gb, Nat.le_trans h.sz hg.size, h.hB, h.vb, h.rb, h.hap, h.hk, h.sw⟩
theorem none_or (x : Option Nat) : x = none ∨ x ≠ none := Classical.em _
theorem Gq.new {Q : Nat → Prop} {B S : Nat} {w wr w' : World} {rv : Value} {K : Nat} {v : Nat → Value} {n : Nat → Nat} {gr : Value} {kr k : Nat} {u : Nat → Value} {m : Nat → Nat} (h : Gq Q B S w wr rv K v n gr kr k u m) (hg : wr.grownBy w' none) : Gq Q B S w w' rv K v n gr kr k u m :=
  h.step hg (fun b e => by cases e) (fun b e => by cases e) (fun j o e => by cases e) (fun j hj => (h.ap.pm j hj).kept hg (none_or _)) (none_or _) (none_or _) (fun j hj => none_or _)

theorem Gq.app {Q : Nat → Prop} {B S : Nat} {w wr wa w' : World} {rv : Value} {K : Nat} {v : Nat → Value} {n : Nat → Nat} {gr : Value} {kr k : Nat} {u : Nat → Value} {m : Nat → Nat} (h : Gq Q B S w wr rv K v n gr kr k u m) (hk : k < K) {x x' : Value} {Sk : Nat} (hSk : S ≤ Sk) (hSw : Sk ≤ wr.heap.size)
    (huk : ∀ j, j < k → ∀ b, (u j).ownBlock = some b → b < Sk) {Y nz : List Int} (ho : Own B wr x Y) (hN : n k ≤ Y.length) (hxb : x.ownBlock = (v k).ownBlock ∨ ∃ b, x.ownBlock = some b ∧ Sk ≤ b) (hga : wr.grownBy wa none) (hnz : 0 < nz.length)
    (h1 : w'.ownsRow B 3 1 x' (Y.length + nz.length) (Y.map (Value.int .i64) ++ nz.map (Value.int .i64)))
    (h2 : (∃ g cap, x = .slice (some ⟨g, 0, none⟩) Y.length cap ∧ x' = .slice (some ⟨g, 0, none⟩) (Y.length + nz.length) cap ∧ wa.grownBy w' (some g)) ∨ (w'.ownsRow wa.heap.size 3 1 x' (Y.length + nz.length) (Y.map (Value.int .i64) ++ nz.map (Value.int .i64)) ∧ wa.grownBy w' none)) :
    Gq Q B S w w' rv K v n gr kr k u m ∧ Own B w' x' (Y ++ nz) ∧ (x'.ownBlock = (v k).ownBlock ∨ ∃ b, x'.ownBlock = some b ∧ Sk ≤ b) := by
  have ha := h.new hga
  have hoa : Own B wa x Y := World.ownsRow.kept ho hga (none_or _)
  have o1 : Own B w' x' (Y ++ nz) := by
    unfold Own
    rw [List.length_append, List.map_append]
    exact h1
  rcases h2 with ⟨g, cap, rfl, rfl, hg⟩ | ⟨h3, hg⟩
  · have ex : (Value.slice (some ⟨g, 0, none⟩) Y.length cap).ownBlock = some g := rfl
    have ex' : (Value.slice (some ⟨g, 0, none⟩) (Y.length + nz.length) cap).ownBlock = some g := rfl
    have hBg : B ≤ g := (World.ownsRow.lt hoa g ex).1
    rw [ex] at hxb
    have nr : rv.ownBlock ≠ some g := block_apart (by decide) ha.ap.row hoa ex
    have ngr : gr.ownBlock ≠ some g := block_apart (by decide) ha.grow hoa ex
    refine ⟨?_, o1, by rw [ex']; exact hxb⟩
    rcases hxb with q | ⟨b, q, hb⟩
    · refine ha.step hg (fun b e => by cases e; exact hBg) (fun b e => by cases e; exact h.ap.qv k hk _ q.symm) (fun j o e h => row_cells hoa j o (by rw [ex]; exact e) h) (fun j hj => ?_) (.inr nr) (.inr ngr) (fun j hj => ?_)
      · by_cases e : j = k
        · subst e
          exact (ha.ap.pm j hj).prefix q.symm hoa hN h1
        · refine (ha.ap.pm j hj).kept hg ?_
          have := h.hap j k hj hk e
          rwa [← q] at this
      · rcases h.gb j hj with q' | ⟨b, q', hb⟩
        · rw [q']
          have := h.hap j k (by omega) hk (by omega)
          rwa [← q] at this
        · refine .inr (fun e => ?_)
          rw [q'] at e
          cases e
          have := h.vb k hk _ q.symm
          omega
    · cases q
      refine ha.step hg (fun b e => by cases e; exact hBg) (fun b e hq => by cases e; have h7 := h.ap.qs _ hq; have h8 := h.sw; omega) (fun j o e h => row_cells hoa j o (by rw [ex]; exact e) h) (fun j hj => (ha.ap.pm j hj).kept hg (.inr fun e => ?_)) (.inr nr) (.inr ngr) (fun j hj => .inr fun e => ?_)
      · have := h.vb j hj _ e
        omega
      · have := huk j hj _ e
        omega
  · refine ⟨ha.new hg, o1, .inr ?_⟩
    rcases h3.2 with ⟨_, hn⟩ | ⟨g, cap, cur, rfl, hb, _⟩
    · omega
    · have := hga.size
      exact ⟨g, rfl, by omega⟩

theorem Gq.push {Q : Nat → Prop} {B S : Nat} {w wr wa w' : World} {rv : Value} {K : Nat} {v : Nat → Value} {n : Nat → Nat} {gr gr' : Value} {k : Nat} {u : Nat → Value} {m : Nat → Nat} (h : Gq Q B S w wr rv K v n gr k k u m) (hk : k < K) {x : Value} (hga : wr.grownBy wa none)
    (own' : w'.ownsRow S 43 1 gr' (k + 1) ((List.range k).map u ++ [x])) (hg : wa.grownBy w' gr.ownBlock) (hx : Pm B wr x k (n k + 64) (m k)) (hxb : x.ownBlock = (v k).ownBlock ∨ ∃ b, x.ownBlock = some b ∧ S ≤ b) :
    Gq Q B S w w' rv K v n gr' (k + 1) (k + 1) (fun j => if j < k then u j else x) m := by
  have ha := h.new hga
  have hxa := hx.kept hga (none_or _)
  have keep : ∀ {y : Value} {a b c : Nat}, Pm B wa y a b c → Pm B w' y a b c := fun hp => by
    obtain ⟨Y, ho, hl, hm⟩ := hp
    exact ⟨Y, ownsRow_apart (by decide) ho ha.grow hg, hl, hm⟩
  have hgB : ∀ b, gr.ownBlock = some b → S ≤ b := fun b e => (World.ownsRow.lt ha.grow b e).1
  have hr : rv.ownBlock = none ∨ rv.ownBlock ≠ gr.ownBlock := by
    cases e : rv.ownBlock with
    | none => exact .inl rfl
    | some b => exact .inr fun e' => by have h1 := h.rb b e; have h2 := hgB b e'.symm; omega
  refine ⟨⟨World.ownsRow.kept ha.ap.row hg hr, fun j hj => keep (ha.ap.pm j hj), ha.ap.bel.grown hg (Nat.le_trans ha.hB ha.sz) (fun b e => Nat.le_trans h.hB (hgB b e)), ha.ap.ko.trans (KeepsOthers.of_grownBy hg (row_cells ha.grow)), fun q hq => (hg.block q (Nat.lt_of_lt_of_le (ha.ap.qs q hq) ha.ap.bel.size) (fun e => by have h7 := hgB q e.symm; have h8 := ha.ap.qs q hq; have h9 := h.sw; omega)).trans (ha.ap.kp q hq), h.ap.qv, h.ap.qs⟩, ?_, fun j hj => ?_, fun j hj => ?_, Nat.le_trans ha.sz hg.size, h.hB, h.vb, h.rb, h.hap, hk, h.sw⟩
  · have : (List.range (k + 1)).map (fun j => if j < k then u j else x) = (List.range k).map u ++ [x] := by
      rw [List.range_succ, List.map_append]
      simp only [List.map_cons, List.map_nil, Nat.lt_irrefl, if_false]
      congr 1
      exact List.map_congr_left fun j hj => by rw [if_pos (List.mem_range.1 hj)]
    rw [this]
    exact own'
  · by_cases e : j < k
    · rw [if_pos e]; exact keep (ha.gp j e)
    · obtain rfl : j = k := by omega
      rw [if_neg e]; exact keep hxa
  · by_cases e : j < k
    · rw [if_pos e]; exact h.gb j e
    · obtain rfl : j = k := by omega
      rw [if_neg e]; exact hxb

theorem Gq.put {Q : Nat → Prop} {B S : Nat} {w wr : World} {rv : Value} {K : Nat} {v : Nat → Value} {n : Nat → Nat} {gg cap : Nat} {k : Nat} {u : Nat → Value} {m : Nat → Nat} (h : Gq Q B S w wr rv K v n (.slice (some ⟨gg, 0, none⟩) K cap) K k u m) (hk : k < K) {x : Value}
    (hx : Pm B wr x k (n k + 64) (m k)) (hxb : x.ownBlock = (v k).ownBlock ∨ ∃ b, x.ownBlock = some b ∧ S ≤ b) :
    Gq Q B S w (wr.setCell ⟨gg, k, none⟩ x) rv K v n (.slice (some ⟨gg, 0, none⟩) K cap) K (k + 1) (fun j => if j = k then x else u j) m := by
  obtain ⟨s1, s2⟩ := World.ownsRow.stored h.grow k x
  have hgS : S ≤ gg := (World.ownsRow.lt h.grow gg rfl).1
  have keep : ∀ {y : Value} {a b c : Nat}, Pm B wr y a b c → Pm B (wr.setCell ⟨gg, k, none⟩ x) y a b c := fun hp => by
    obtain ⟨Y, ho, hl, hm⟩ := hp
    exact ⟨Y, ownsRow_apart (by decide) ho h.grow s2, hl, hm⟩
  have hr : rv.ownBlock = none ∨ rv.ownBlock ≠ some gg := .inr fun e => by have := h.rb gg e; omega
  refine ⟨⟨World.ownsRow.kept h.ap.row s2 hr, fun j hj => keep (h.ap.pm j hj), h.ap.bel.setCell (p := ⟨gg, k, none⟩) (Nat.le_trans h.hB hgS) _, h.ap.ko.trans (KeepsOthers.setCell _ _ _), fun q hq => (heap_other (W := wr) ⟨gg, k, none⟩ _ (fun e9 => by have h7 : gg = q := e9; have h8 := h.ap.qs q hq; have h9 := h.sw; omega)).trans (h.ap.kp q hq), h.ap.qv, h.ap.qs⟩, ?_, fun j hj => ?_, fun j hj => ?_, Nat.le_trans h.sz s2.size, h.hB, h.vb, h.rb, h.hap, hk, h.sw⟩
  · have : ((List.range K).map u).set k x = (List.range K).map (fun j => if j = k then x else u j) := by
      apply List.ext_getElem?
      intro j
      rw [List.getElem?_set, List.getElem?_map, List.getElem?_map]
      by_cases e : k = j
      · subst e
        simp [hk]
      · have e' : ¬ j = k := fun h => e h.symm
        by_cases hj : j < K <;> simp [e, e', hj]
    rw [← this]
    exact s1
  · by_cases e : j = k
    · subst e; rw [if_pos rfl]; exact keep hx
    · rw [if_neg e]; exact keep (h.gp j (by omega))
  · by_cases e : j = k
    · subst e; rw [if_pos rfl]; exact hxb
    · rw [if_neg e]; exact h.gb j (by omega)

end Go.Proofs.YtlkbbbbclmffjaaGreatDoor
set_option linter.unusedSimpArgs false
set_option linter.unusedVariables false
namespace Go.Proofs.YtlkbbbbclmffjaaGreatDoor
open Go Go.RowKit Go.Shelf

attribute [local go_sem] Oper.semAt_some

theorem infoBt : (Tryz.prog.info? 4).map (fun i => (i.zero, i.size, i.bytes)) = some (some (.bool false), 1, 1) := by kernel_rfl
theorem infoBr : (Tryz.prog.info? 25).map (fun i => (i.zero, i.size, i.bytes)) = some (some (.slice none 0 0), 1, 24) := by kernel_rfl
/-- a row of cells of whatever type but that of a row of lists -/
def Orw (w : World) (base : Nat) (v : Value) (n : Nat) (xs : List Value) : Prop :=
  xs.length = n ∧ ((v = .slice none 0 0 ∧ n = 0) ∨ ∃ g cap cur t, v = .slice (some ⟨g, 0, none⟩) n cap ∧ base ≤ g ∧ w.heap[g]? = some (.cells cur t (0, 0)) ∧ t ≠ 25 ∧ n ≤ cap ∧ cap ≤ maxLen ∧ cur.size = cap ∧ cur.toList.take n = xs)
/-- a list of truths in it -/
def Obw (base : Nat) (w : World) (v : Value) (Y : List Bool) : Prop := Orw w base v Y.length (Y.map Value.bool)
theorem Orw.of {w : World} {base : Nat} {e : TypeId} {v : Value} {n : Nat} {xs : List Value} (h : w.ownsRow base e 1 v n xs) (he : e ≠ 25) : Orw w base v n xs := by
  refine ⟨by have := h.1; omega, ?_⟩
  rcases h.2 with h0 | ⟨g, cap, cur, h1, h2, h3, h4, h5, h6, h7⟩
  · exact .inl h0
  · exact .inr ⟨g, cap, cur, e, h1, h2, h3, he, h4, h5, by omega, by rw [Nat.mul_one] at h7; exact h7⟩
theorem Orw.mono {w : World} {base base' : Nat} {v : Value} {n : Nat} {xs : List Value} (h : Orw w base v n xs) (hb : base' ≤ base) : Orw w base' v n xs := by
  refine ⟨h.1, ?_⟩
  rcases h.2 with h0 | ⟨g, cap, cur, t, h1, h2, r⟩
  · exact .inl h0
  · exact .inr ⟨g, cap, cur, t, h1, Nat.le_trans hb h2, r⟩
theorem Orw.kept {w w' : World} {base : Nat} {v : Value} {n : Nat} {xs : List Value} {row : Option Nat} (h : Orw w base v n xs) (hg : w.grownBy w' row) (hne : v.ownBlock = none ∨ v.ownBlock ≠ row) : Orw w' base v n xs := by
  refine ⟨h.1, ?_⟩
  rcases h.2 with h0 | ⟨g, cap, cur, t, rfl, h2, h3, r⟩
  · exact .inl h0
  · refine .inr ⟨g, cap, cur, t, rfl, h2, ?_, r⟩
    rw [hg.block g (Array.getElem?_eq_some_iff.1 h3).1 (fun e => ?_)]
    · exact h3
    · rcases hne with q | q
      · cases q
      · exact q e
theorem Orw.lt {w : World} {base : Nat} {v : Value} {n : Nat} {xs : List Value} (h : Orw w base v n xs) : ∀ b, v.ownBlock = some b → base ≤ b ∧ b < w.heap.size := fun b e => by
  rcases h.2 with ⟨rfl, _⟩ | ⟨g, cap, cur, t, rfl, h2, h3, r⟩
  · cases e
  · cases e
    exact ⟨h2, (Array.getElem?_eq_some_iff.1 h3).1⟩
theorem Orw.alloc {w : World} {base : Nat} {v : Value} {n : Nat} {xs : List Value} (h : Orw w base v n xs) (o : Obj) : Orw (w.alloc o) base v n xs := h.kept (World.grownBy_alloc _ _ none) (none_or _)
theorem Orw.other {w : World} {base g i : Nat} {v : Value} {n : Nat} {xs : List Value} (h : Orw w base v n xs) (hne : v.ownBlock ≠ some g) (x : Value) : Orw (w.setCell ⟨g, i, none⟩ x) base v n xs :=
  h.kept (grown_set w ⟨g, i, none⟩ x) (.inr hne)
theorem Orw.cells {w : World} {base : Nat} {v : Value} {n : Nat} {xs : List Value} (h : Orw w base v n xs) : ∀ (j : Nat) (o : Obj), v.ownBlock = some j → w.heap[j]? = some o → o.isCells = true := fun j o ej hj => by
  rcases h.2 with ⟨rfl, _⟩ | ⟨g, cap, cur, t, rfl, h2, h3, r⟩
  · cases ej
  · cases ej
    rw [h3] at hj
    cases hj
    rfl
theorem Orw.at {w : World} {base g cap n j : Nat} {xs : List Value} {a : Nat} (h : Orw w base (.slice (some ⟨g, 0, none⟩) a cap) n xs) (hj : j < n) : w.cell? ⟨g, j, none⟩ = xs[j]? ∧ w.frozen? ⟨g, j, none⟩ = false := by
  rcases h.2 with ⟨e, _⟩ | ⟨g', cap', cur, t, e, h2, h3, h4, h5, h6, h7, h8⟩
  · cases e
  · injection e with e1 e2 e3
    injection e1 with e1; injection e1 with e1
    subst e1
    refine ⟨?_, by simp [World.frozen?, h3]⟩
    rw [← h8, List.getElem?_take_of_lt hj]
    simp only [World.cell?, h3]
    simp
theorem Orw.form {w : World} {base n : Nat} {v : Value} {xs : List Value} (h : Orw w base v n xs) (hn : 0 < n) : ∃ g cap, v = .slice (some ⟨g, 0, none⟩) n cap ∧ base ≤ g ∧ n ≤ cap := by
  rcases h.2 with ⟨_, h0⟩ | ⟨g, cap, cur, t, e, h2, h3, h4, h5, _⟩
  · omega
  · exact ⟨g, cap, e, h2, h5⟩
theorem Orw.slice {w : World} {base n : Nat} {v : Value} {xs : List Value} (h : Orw w base v n xs) : ∃ a c, v = .slice a n c := by
  rcases h.2 with ⟨e, h0⟩ | ⟨g, cap, cur, t, e, _⟩
  · exact ⟨none, 0, by rw [e, h0]⟩
  · exact ⟨_, _, e⟩
/-- a row of lists lies apart from it -/
theorem Orw.apart {w w' : World} {base base' s n' : Nat} {v u : Value} {n : Nat} {xs xs' : List Value} (h : Orw w base v n xs) (hu : w.ownsRow base' 25 s u n' xs') (hg : w.grownBy w' u.ownBlock) : Orw w' base v n xs := by
  refine h.kept hg ?_
  rcases h.2 with ⟨rfl, _⟩ | ⟨g, cap, cur, t, rfl, h2, h3, h4, _⟩
  · exact .inl rfl
  · refine .inr (fun e => ?_)
    rcases hu.2 with ⟨rfl, _⟩ | ⟨g', cap', cur', rfl, _, hh', _⟩
    · cases e
    · cases e
      rw [h3] at hh'
      cases hh'
      exact h4 rfl
theorem block_apartB {w : World} {base base' s n n' g : Nat} {v u : Value} {xs xs' : List Value} (h : w.ownsRow base 25 s v n xs) (hu : Orw w base' u n' xs') (hg : u.ownBlock = some g) : v.ownBlock ≠ some g := by
  intro hv
  rcases h.2 with ⟨rfl, _⟩ | ⟨g1, cap, cur, rfl, hb', hh, r⟩
  · cases hv
  rcases hu.2 with ⟨rfl, _⟩ | ⟨g', cap', cur', t, rfl, _, hh', h4, _⟩
  · cases hg
  cases hv
  cases hg
  rw [hh] at hh'
  cases hh'
  exact h4 rfl
theorem Obw.store {base : Nat} {w : World} {g cap n m : Nat} {Y : List Bool} {z : Bool} (h : Obw base w (.slice (some ⟨g, 0, none⟩) n cap) Y) (hl : Y.length = n) (hm : m < n) :
    Obw base (w.setCell ⟨g, m, none⟩ (.bool z)) (.slice (some ⟨g, 0, none⟩) n cap) (Y.set m z) := by
  rcases h.2 with ⟨e, _⟩ | ⟨g', cap', cur, t, hv, hb, hg, ht, h1, h2, h3, h4⟩
  · cases e
  · injection hv with ha hn hc
    injection ha with ha; injection ha with ha; subst ha; subst hc
    unfold Obw
    rw [List.length_set, List.map_set]
    refine ⟨by rw [List.length_set]; exact h.1, .inr ⟨g, cap, cur.setIfInBounds m (.bool z), t, by rw [hl], hb, set_heap hg m _, ht, h1, h2, by simpa using h3, ?_⟩⟩
    rw [Array.toList_setIfInBounds, List.take_set, h4]
theorem own_prefixB {B B' : Nat} {w w' : World} {v0 : Value} {n0 n m g cap : Nat} {xs0 xs news : List Value} (h0 : Orw w B v0 n0 xs0) (hb : v0.ownBlock = some g) (hv : Orw w B' (.slice (some ⟨g, 0, none⟩) n cap) n xs) (hn : n0 ≤ n)
    (hv' : Orw w' B' (.slice (some ⟨g, 0, none⟩) (n + m) cap) (n + m) (xs ++ news)) : Orw w' B v0 n0 xs0 := by
  refine ⟨h0.1, ?_⟩
  rcases h0.2 with ⟨rfl, _⟩ | ⟨g0, cap0, cur, t, rfl, hbg, hg, hty, hnc, hcm, hcs, ht⟩
  · cases hb
  · cases hb
    rcases hv.2 with ⟨e1, _⟩ | ⟨g1, cap1, cur1, t1, e1, _, hg1, _, hnc1, hcm1, hcs1, ht1⟩
    · cases e1
    · cases e1
      rw [hg] at hg1
      cases hg1
      rcases hv'.2 with ⟨e2, _⟩ | ⟨g2, cap2, cur2, t2, e2, _, hg2, hty2, hnc2, hcm2, hcs2, ht2⟩
      · cases e2
      · cases e2
        refine .inr ⟨_, _, cur2, t2, rfl, hbg, hg2, hty2, hnc, hcm, by omega, ?_⟩
        have hx0 : xs0 = xs.take n0 := by rw [← ht, ← ht1, List.take_take]; congr 1; omega
        have hxl : xs.length = n := hv.1
        rw [hx0, show cur2.toList.take n0 = (cur2.toList.take (n + m)).take n0 by rw [List.take_take]; congr 1; omega, ht2, List.take_append_of_le_length (by omega)]
section
variable {P : Program} (w : World)
theorem run_append_roomB (t ty e t' : TypeId) (i : TypeInfo) (ht : P.underlying t = some (.slice e)) (hi : P.info? e = some i)
    (g sLen sCap : Nat) (cur : Array Value) (hg : w.heap[g]? = some (.cells cur t' (0, 0)))
    (a : Addr) (m c : Nat) (news : List Value) (hl : news.length = m * i.size) (hnews : ∀ j u, news[j]? = some u → w.cell? (a.add j) = some u) (h1 : ∀ u ∈ news, u.oneCell' = true)
    (hroom : sLen + m ≤ sCap) (hfit : sLen * i.size + news.length ≤ cur.size) :
    (Builtin.append_ #[t, t] ty #[.slice (some ⟨g, 0, none⟩) sLen sCap, .slice (some a) m c]).run P w =
      .ok (.slice (some ⟨g, 0, none⟩) (sLen + m) sCap) (w.setRow g (cur.toList.take (sLen * i.size) ++ news ++ cur.toList.drop (sLen * i.size + news.length)).toArray) := by
  have hf := run_firstCells_some (P := P) w i.size m a m c news hl hnews
  have hst := run_storeCells_at P g (sLen * i.size) t' news 0 cur w hg (by simpa using hfit) h1
  simp only [Nat.add_zero] at hst
  simp [Builtin.append_, run_underlying ht, sizeOf, typeInfo, hi, Builtin.lenOf, hroom, hf, Addr.add_lit, hst]
theorem run_append_twoB (base : Nat) (t ty e : TypeId) (i : TypeInfo) (z : Value) (bytes : Nat) (ht : P.underlying t = some (.slice e)) (hi : P.info? e = some i) (hz : i.zero = some z)
    (hsize : i.size = 1) (hby : i.bytes = bytes) (hzs : z.cells.size = 1) (hte : e ≠ 25)
    (v : Value) (n : Nat) (xs : List Value) (hown : Orw w base v n xs)
    (a : Addr) (m c : Nat) (news : List Value) (hl : news.length = m) (hnews : ∀ j u, news[j]? = some u → w.cell? (a.add j) = some u) (h1 : ∀ u ∈ news, u.oneCell' = true)
    (hm : 0 < m) (h63 : n + m ≤ maxLen) (hbytes : (n + m) * bytes ≤ 140737488355328) (hbase : base ≤ w.heap.size) :
    ∃ v' w', (Builtin.append_ #[t, t] ty #[v, .slice (some a) m c]).run P w = .ok v' w' ∧ Orw w' base v' (n + m) (xs ++ news) ∧
      ((∃ g cap, v = .slice (some ⟨g, 0, none⟩) n cap ∧ v' = .slice (some ⟨g, 0, none⟩) (n + m) cap ∧ w.grownBy w' (some g)) ∨ (Orw w' w.heap.size v' (n + m) (xs ++ news) ∧ w.grownBy w' none)) := by
  have hl1 : news.length = m * 1 := by omega
  have hlen : (xs ++ news).length = n + m := by rw [List.length_append, hown.1, hl]
  rcases hown.2 with ⟨rfl, rfl⟩ | ⟨g, cap, cur, t', rfl, hbg, hg, hty, hnc, hcm, hcs, htake⟩
  · have hx : xs = [] := List.eq_nil_of_length_eq_zero (by simpa using hown.1)
    subst hx
    obtain ⟨v', w', hr, h2, h3, -⟩ := run_append_own (P := P) w w.heap.size t ty e i z 1 bytes ht hi hz hsize hby hzs (by omega) (.slice none 0 0) 0 [] (World.ownsRow_nil w _ e 1) a m c news hl1 hnews h1 h63 hbytes (Nat.le_refl _)
    have h2' := Orw.of h2 hte
    exact ⟨v', w', hr, h2'.mono hbase, .inr ⟨h2', h3⟩⟩
  · by_cases hroom : n + m ≤ cap
    · have hfit : n * i.size + news.length ≤ cur.size := by rw [hl, hcs, hsize]; omega
      have hr := run_append_roomB (P := P) w t ty e t' i ht hi g n cap cur hg a m c news (by rw [hl, hsize]; omega) hnews h1 hroom hfit
      refine ⟨_, _, hr, ⟨hlen, .inr ⟨g, cap, _, t', rfl, hbg, setRow_heap w g cur _ t' _ hg, hty, hroom, hcm, ?_, ?_⟩⟩, .inl ⟨g, cap, rfl, rfl, ⟨rfl, rfl, rfl, by simp, fun k _ hk => setRow_other w g k _ (fun e => hk (by simp [e]))⟩⟩⟩
      · simp only [List.size_toArray, List.length_append, List.length_take, List.length_drop, Array.length_toList, hsize]
        omega
      · rw [hsize, Nat.mul_one, htake, ← hlen]
        exact List.take_left
    · have holds : ∀ j u, xs[j]? = some u → w.cell? ((⟨g, 0, none⟩ : Addr).add j) = some u := fun j u hj => by
        have hjn : j < n := by
          have := (List.getElem?_eq_some_iff.1 hj).1
          rw [hown.1] at this; exact this
        have h5 := (hown.at (g := g) (cap := cap) (a := n) hjn).1
        rw [hj] at h5
        have hadd : (⟨g, 0, none⟩ : Addr).add j = ⟨g, j, none⟩ := by unfold Addr.add; split <;> simp_all
        rw [hadd]
        exact h5
      obtain ⟨v', w', hrun, r1, r2⟩ := run_append_arg_grows (P := P) w t ty e i z 1 bytes ht hi hz hsize hby hzs (by omega) ⟨g, 0, none⟩ n cap xs (by rw [hown.1]; omega) holds a m c news hl1 hnews (by omega) h63 hbytes
      have r1' := Orw.of r1 hte
      exact ⟨v', w', hrun, r1'.mono hbase, .inr ⟨r1', r2⟩⟩
theorem wpList_append_twoB {ops : Array Oper} {rest : List Oper} {o : Oper} {a : Act} {Q : Exit → Act → World → Prop} (hgd : o.guard = none) (s x : Operand) (t : TypeId)
    (ho : o.op = .call { callee := .builtin .append, args := #[s, x], argTypes := #[t, t] })
    (base : Nat) (e : TypeId) (i : TypeInfo) (z : Value) (bytes : Nat) (ht : P.underlying t = some (.slice e)) (hi : P.info? e = some i) (hz : i.zero = some z)
    (hsize : i.size = 1) (hby : i.bytes = bytes) (hzs : z.cells.size = 1) (hte : e ≠ 25)
    (v : Value) (n : Nat) (xs : List Value) (hs : a.eval s = v) (hown : Orw w base v n xs)
    (ad : Addr) (m c : Nat) (news : List Value) (hx : a.eval x = .slice (some ad) m c) (hl : news.length = m) (hnews : ∀ j u, news[j]? = some u → w.cell? (ad.add j) = some u) (h1 : ∀ u ∈ news, u.oneCell' = true)
    (hm : 0 < m) (h63 : n + m ≤ maxLen) (hbytes : (n + m) * bytes ≤ 140737488355328) (hbase : base ≤ w.heap.size)
    (h : ∀ v' w', Orw w' base v' (n + m) (xs ++ news) →
      ((∃ g cap, v = .slice (some ⟨g, 0, none⟩) n cap ∧ v' = .slice (some ⟨g, 0, none⟩) (n + m) cap ∧ w.grownBy w' (some g)) ∨ (Orw w' w.heap.size v' (n + m) (xs ++ news) ∧ w.grownBy w' none)) → wpList P ops Q rest (a.put o.dst v') w') :
    wpList P ops Q (o :: rest) a w := by
  refine wpList_plain hgd fun K hK => ?_
  obtain ⟨v', w', hr, h2, h3⟩ := run_append_twoB (P := P) w base t o.type e i z bytes ht hi hz hsize hby hzs hte v n xs hown ad m c news hl hnews h1 hm h63 hbytes hbase
  unfold Oper.wp execOp
  simp only [ho, resolve, invoke, builtin, Sem.run_bind, Sem.run_pure, Result.andThen_ok, List.map_toArray, List.map_cons, List.map_nil, hs, hx, hr]
  exact hK _ _ (h v' w' h2 h3)
end
/-- the mark of a place -/
def mrb (k i : Nat) : Bool := (13 * (k : Int) + 5 * (i : Int)) % 3 == 0
/-- a list of n truths whose first c bear their marks -/
def Pbm (B : Nat) (w : World) (v : Value) (k n c : Nat) : Prop := ∃ Y : List Bool, Obw B w v Y ∧ Y.length = n ∧ ∀ t, t < c → Y.getD t false = mrb k t
theorem Pbm.slice {B : Nat} {w : World} {v : Value} {k n c : Nat} (h : Pbm B w v k n c) : ∃ a cap, v = .slice a n cap := by
  obtain ⟨Y, ho, rfl, -⟩ := h
  exact Orw.slice ho
theorem Pbm.place {B : Nat} {w : World} {v : Value} {k n c i : Nat} (h : Pbm B w v k n c) (hi : i < n) : ∃ g cap y, v = .slice (some ⟨g, 0, none⟩) n cap ∧ B ≤ g ∧ n ≤ cap ∧ w.cell? ⟨g, i, none⟩ = some (.bool y) ∧ w.frozen? ⟨g, i, none⟩ = false := by
  obtain ⟨Y, ho, rfl, -⟩ := h
  obtain ⟨g, cap, e, h1, h2⟩ := Orw.form ho (by omega)
  subst e
  have h3 := Orw.at ho hi
  exact ⟨g, cap, Y[i], rfl, h1, h2, by rw [h3.1]; simp [hi], h3.2⟩
theorem Pbm.cell {B : Nat} {w : World} {v : Value} {k n c i : Nat} (h : Pbm B w v k n c) (hi : i < n) (hc : i < c) : ∃ g cap, v = .slice (some ⟨g, 0, none⟩) n cap ∧ n ≤ cap ∧ w.cell? ⟨g, i, none⟩ = some (.bool (mrb k i)) := by
  obtain ⟨Y, ho, rfl, hm⟩ := h
  obtain ⟨g, cap, e, h1, h2⟩ := Orw.form ho (by omega)
  subst e
  have h3 := Orw.at ho hi
  refine ⟨g, cap, rfl, h2, ?_⟩
  rw [h3.1, ← hm i hc]
  simp [List.getD_eq_getElem?_getD, hi]
theorem Pbm.store {B : Nat} {w : World} {g cap k n i : Nat} (h : Pbm B w (.slice (some ⟨g, 0, none⟩) n cap) k n i) (hi : i < n) : Pbm B (w.setCell ⟨g, i, none⟩ (.bool (mrb k i))) (.slice (some ⟨g, 0, none⟩) n cap) k n (i + 1) := by
  obtain ⟨Y, ho, hY, hm⟩ := h
  refine ⟨Y.set i (mrb k i), Obw.store ho hY hi, by rw [List.length_set]; exact hY, fun t ht => ?_⟩
  by_cases e : t = i
  · subst e
    simp [List.getD_eq_getElem?_getD, List.getElem?_set, hY, hi]
  · have := hm t (by omega)
    simp only [List.getD_eq_getElem?_getD] at this ⊢
    rw [List.getElem?_set_ne (by omega)]
    exact this
theorem Pbm.setOther {B : Nat} {w : World} {v : Value} {k n c g i : Nat} (h : Pbm B w v k n c) (hne : v.ownBlock ≠ some g) (x : Value) : Pbm B (w.setCell ⟨g, i, none⟩ x) v k n c := by
  obtain ⟨Y, ho, hY, hm⟩ := h
  exact ⟨Y, Orw.other ho hne x, hY, hm⟩
theorem Pbm.kept {B : Nat} {w w' : World} {v : Value} {k n c : Nat} {row : Option Nat} (h : Pbm B w v k n c) (hg : w.grownBy w' row) (hne : v.ownBlock = none ∨ v.ownBlock ≠ row) : Pbm B w' v k n c := by
  obtain ⟨Y, ho, hY, hm⟩ := h
  exact ⟨Y, Orw.kept ho hg hne, hY, hm⟩
theorem Pbm.less {B : Nat} {w : World} {v : Value} {k n c c' : Nat} (h : Pbm B w v k n c) (hc : c' ≤ c) : Pbm B w v k n c' := by
  obtain ⟨Y, ho, hY, hm⟩ := h
  exact ⟨Y, ho, hY, fun t ht => hm t (by omega)⟩
theorem Pbm.lt {B : Nat} {w : World} {v : Value} {k n c : Nat} (h : Pbm B w v k n c) : ∀ b, v.ownBlock = some b → B ≤ b ∧ b < w.heap.size := by
  obtain ⟨Y, ho, hY, hm⟩ := h
  exact Orw.lt ho

end Go.Proofs.YtlkbbbbclmffjaaGreatDoor
set_option linter.unusedSimpArgs false
set_option linter.unusedVariables false
namespace Go.Proofs.YtlkbbbbclmffjaaGreatDoor
open Go Go.RowKit Go.Shelf

structure Abq (Q : Nat → Prop) (B : Nat) (w wr : World) (rv : Value) (K : Nat) (v : Nat → Value) (n c : Nat → Nat) : Prop where
  row : wr.ownsRow B 25 1 rv K ((List.range K).map v)
  pm : ∀ j, j < K → Pbm B wr (v j) j (n j) (c j)
  bel : Below B w wr
  ko : KeepsOthers w wr
  kp : ∀ k, Q k → wr.heap[k]? = w.heap[k]?
  qv : ∀ j, j < K → ∀ b, (v j).ownBlock = some b → ¬ Q b
  qs : ∀ k, Q k → k < w.heap.size
theorem Abq.weaken {Q : Nat → Prop} {B : Nat} {w wr : World} {rv : Value} {K : Nat} {v : Nat → Value} {n c c' : Nat → Nat} (h : Abq Q B w wr rv K v n c) (hc : ∀ j, j < K → c' j ≤ c j) : Abq Q B w wr rv K v n c' :=
  ⟨h.row, fun j hj => (h.pm j hj).less (hc j hj), h.bel, h.ko, h.kp, h.qv, h.qs⟩
theorem Abq.drew {Q : Nat → Prop} {B : Nat} {w wr : World} {rv : Value} {K : Nat} {v : Nat → Value} {n c : Nat → Nat} (h : Abq Q B w wr rv K v n c) : Abq Q B w wr.drew rv K v n c := ⟨h.row, h.pm, h.bel.drew, ⟨h.ko.size, h.ko.same⟩, h.kp, h.qv, h.qs⟩
theorem row_atb {B K k : Nat} {wr : World} {rv : Value} {v : Nat → Value} (h : wr.ownsRow B 25 1 rv K ((List.range K).map v)) (hk : k < K) :
    ∃ g cap, rv = .slice (some ⟨g, 0, none⟩) K cap ∧ K ≤ cap ∧ wr.cell? ⟨g, k, none⟩ = some (v k) := by
  rcases h.2 with ⟨_, hn⟩ | ⟨g, cap, cur, hv, hb, hh, hnc, hcm, hcs, ht⟩
  · omega
  · subst hv
    refine ⟨g, cap, rfl, hnc, (h.cellAt k (by omega)).trans ?_⟩
    simp [hk]
theorem Abq.mark {Q : Nat → Prop} {B : Nat} {w wr : World} {rv : Value} {K : Nat} {v : Nat → Value} {n c : Nat → Nat} (h : Abq Q B w wr rv K v n c)
    (hap : ∀ i j, i < K → j < K → i ≠ j → (v i).ownBlock = none ∨ (v i).ownBlock ≠ (v j).ownBlock) {k i : Nat} (hk : k < K) (hc : c k = i) (hi : i < n k) :
    ∃ g cap y, v k = .slice (some ⟨g, 0, none⟩) (n k) cap ∧ n k ≤ cap ∧ wr.cell? ⟨g, i, none⟩ = some (.bool y) ∧ wr.frozen? ⟨g, i, none⟩ = false ∧
      Abq Q B w (wr.setCell ⟨g, i, none⟩ (.bool (mrb k i))) rv K v n (fun j => if j = k then i + 1 else c j) := by
  have hp := h.pm k hk
  obtain ⟨g, cap, y, e, hg, hcap, h1, h2⟩ := hp.place hi
  refine ⟨g, cap, y, e, hcap, h1, h2, ?_, fun j hj => ?_, h.bel.setCell (p := ⟨g, i, none⟩) hg _, h.ko.trans (KeepsOthers.setCell _ _ _), fun q hq => (heap_other (W := wr) ⟨g, i, none⟩ _ (fun e9 => h.qv k hk g (by rw [e]; rfl) (by rw [show g = q from e9]; exact hq))).trans (h.kp q hq), h.qv, h.qs⟩
  · obtain ⟨Y, ho, -, -⟩ := hp
    exact ownsRow_setCell_other h.row (a := ⟨g, i, none⟩) (block_apartB h.row ho (by rw [e]; rfl)) _
  · by_cases ej : j = k
    · subst ej
      rw [if_pos rfl, e]
      rw [e, hc] at hp
      exact hp.store hi
    · skip
      rw [if_neg ej]
      refine (h.pm j hj).setOther (fun e' => ?_) _
      rcases hap j k hj hk ej with q | q
      · rw [q] at e'; cases e'
      · rw [e', e] at q; exact q rfl

theorem Pbm.prefix {B : Nat} {w w' : World} {v0 : Value} {k n0 c g cap m : Nat} {Y : List Bool} {news : List Value} (h0 : Pbm B w v0 k n0 c) (hb : v0.ownBlock = some g) (hv : Obw B w (.slice (some ⟨g, 0, none⟩) Y.length cap) Y) (hn : n0 ≤ Y.length)
    (hv' : Orw w' B (.slice (some ⟨g, 0, none⟩) (Y.length + m) cap) (Y.length + m) (Y.map Value.bool ++ news)) : Pbm B w' v0 k n0 c := by
  obtain ⟨Y0, ho, hl, hm⟩ := h0
  exact ⟨Y0, own_prefixB (n0 := Y0.length) ho hb hv (by omega) hv', hl, hm⟩

/-- beside them a row of grown ones -/
structure Gbq (Q : Nat → Prop) (B S : Nat) (w wr : World) (rv : Value) (K : Nat) (v : Nat → Value) (n : Nat → Nat) (gr : Value) (kr k : Nat) (u : Nat → Value) (m : Nat → Nat) : Prop where
  ap : Abq Q B w wr rv K v n n
  grow : wr.ownsRow S 25 1 gr kr ((List.range kr).map u)
  gp : ∀ j, j < k → Pbm B wr (u j) j (n j + 64) (m j)
  gb : ∀ j, j < k → (u j).ownBlock = (v j).ownBlock ∨ ∃ b, (u j).ownBlock = some b ∧ S ≤ b
  sz : S ≤ wr.heap.size
  hB : B ≤ S
  vb : ∀ j, j < K → ∀ b, (v j).ownBlock = some b → b < S
  rb : ∀ b, rv.ownBlock = some b → b < S
  hap : ∀ i j, i < K → j < K → i ≠ j → (v i).ownBlock = none ∨ (v i).ownBlock ≠ (v j).ownBlock
  hk : k ≤ K
  sw : w.heap.size ≤ S

theorem Gbq.step {Q : Nat → Prop} {B S : Nat} {w wr w' : World} {rv : Value} {K : Nat} {v : Nat → Value} {n : Nat → Nat} {gr : Value} {kr k : Nat} {u : Nat → Value} {m : Nat → Nat} {row : Option Nat} (h : Gbq Q B S w wr rv K v n gr kr k u m) (hg : wr.grownBy w' row)
    (hrow : ∀ b, row = some b → B ≤ b) (hqq : ∀ b, row = some b → ¬ Q b) (hce : ∀ (j : Nat) (o : Obj), row = some j → wr.heap[j]? = some o → o.isCells = true) (hv : ∀ j, j < K → Pbm B w' (v j) j (n j) (n j)) (hr : rv.ownBlock = none ∨ rv.ownBlock ≠ row) (hgr : gr.ownBlock = none ∨ gr.ownBlock ≠ row) (hu : ∀ j, j < k → (u j).ownBlock = none ∨ (u j).ownBlock ≠ row) :
    Gbq Q B S w w' rv K v n gr kr k u m :=
  ⟨⟨World.ownsRow.kept h.ap.row hg hr, hv, h.ap.bel.grown hg (Nat.le_trans h.hB h.sz) hrow, h.ap.ko.trans (KeepsOthers.of_grownBy hg hce), fun q hq => (hg.block q (Nat.lt_of_lt_of_le (h.ap.qs q hq) h.ap.bel.size) (fun e => hqq q e.symm hq)).trans (h.ap.kp q hq), h.ap.qv, h.ap.qs⟩, World.ownsRow.kept h.grow hg hgr, fun j hj => (h.gp j hj).kept hg (hu j hj), h.gb, Nat.le_trans h.sz hg.size, h.hB, h.vb, h.rb, h.hap, h.hk, h.sw⟩
theorem Gbq.new {Q : Nat → Prop} {B S : Nat} {w wr w' : World} {rv : Value} {K : Nat} {v : Nat → Value} {n : Nat → Nat} {gr : Value} {kr k : Nat} {u : Nat → Value} {m : Nat → Nat} (h : Gbq Q B S w wr rv K v n gr kr k u m) (hg : wr.grownBy w' none) : Gbq Q B S w w' rv K v n gr kr k u m :=
  h.step hg (fun b e => by cases e) (fun b e => by cases e) (fun j o e => by cases e) (fun j hj => (h.ap.pm j hj).kept hg (none_or _)) (none_or _) (none_or _) (fun j hj => none_or _)

theorem Gbq.app {Q : Nat → Prop} {B S : Nat} {w wr wa w' : World} {rv : Value} {K : Nat} {v : Nat → Value} {n : Nat → Nat} {gr : Value} {kr k : Nat} {u : Nat → Value} {m : Nat → Nat} (h : Gbq Q B S w wr rv K v n gr kr k u m) (hk : k < K) {x x' : Value} {Sk : Nat} (hSk : S ≤ Sk) (hSw : Sk ≤ wr.heap.size)
    (huk : ∀ j, j < k → ∀ b, (u j).ownBlock = some b → b < Sk) {Y nz : List Bool} (ho : Obw B wr x Y) (hN : n k ≤ Y.length) (hxb : x.ownBlock = (v k).ownBlock ∨ ∃ b, x.ownBlock = some b ∧ Sk ≤ b) (hga : wr.grownBy wa none) (hnz : 0 < nz.length)
    (h1 : Orw w' B x' (Y.length + nz.length) (Y.map Value.bool ++ nz.map Value.bool))
    (h2 : (∃ g cap, x = .slice (some ⟨g, 0, none⟩) Y.length cap ∧ x' = .slice (some ⟨g, 0, none⟩) (Y.length + nz.length) cap ∧ wa.grownBy w' (some g)) ∨ (Orw w' wa.heap.size x' (Y.length + nz.length) (Y.map Value.bool ++ nz.map Value.bool) ∧ wa.grownBy w' none)) :
    Gbq Q B S w w' rv K v n gr kr k u m ∧ Obw B w' x' (Y ++ nz) ∧ (x'.ownBlock = (v k).ownBlock ∨ ∃ b, x'.ownBlock = some b ∧ Sk ≤ b) := by
  have ha := h.new hga
  have hoa : Obw B wa x Y := Orw.kept ho hga (none_or _)
  have o1 : Obw B w' x' (Y ++ nz) := by
    unfold Obw
    rw [List.length_append, List.map_append]
    exact h1
  rcases h2 with ⟨g, cap, rfl, rfl, hg⟩ | ⟨h3, hg⟩
  · have ex : (Value.slice (some ⟨g, 0, none⟩) Y.length cap).ownBlock = some g := rfl
    have ex' : (Value.slice (some ⟨g, 0, none⟩) (Y.length + nz.length) cap).ownBlock = some g := rfl
    have hBg : B ≤ g := (Orw.lt hoa g ex).1
    rw [ex] at hxb
    have nr : rv.ownBlock ≠ some g := block_apartB ha.ap.row hoa ex
    have ngr : gr.ownBlock ≠ some g := block_apartB ha.grow hoa ex
    refine ⟨?_, o1, by rw [ex']; exact hxb⟩
    rcases hxb with q | ⟨b, q, hb⟩
    · refine ha.step hg (fun b e => by cases e; exact hBg) (fun b e => by cases e; exact h.ap.qv k hk _ q.symm) (fun j o e h => Orw.cells hoa j o (by rw [ex]; exact e) h) (fun j hj => ?_) (.inr nr) (.inr ngr) (fun j hj => ?_)
      · by_cases e : j = k
        · subst e
          exact (ha.ap.pm j hj).prefix q.symm hoa hN h1
        · refine (ha.ap.pm j hj).kept hg ?_
          have := h.hap j k hj hk e
          rwa [← q] at this
      · rcases h.gb j hj with q' | ⟨b, q', hb⟩
        · rw [q']
          have := h.hap j k (by omega) hk (by omega)
          rwa [← q] at this
        · refine .inr (fun e => ?_)
          rw [q'] at e
          cases e
          have := h.vb k hk _ q.symm
          omega
    · cases q
      refine ha.step hg (fun b e => by cases e; exact hBg) (fun b e hq => by cases e; have h7 := h.ap.qs _ hq; have h8 := h.sw; omega) (fun j o e h => Orw.cells hoa j o (by rw [ex]; exact e) h) (fun j hj => (ha.ap.pm j hj).kept hg (.inr fun e => ?_)) (.inr nr) (.inr ngr) (fun j hj => .inr fun e => ?_)
      · have := h.vb j hj _ e
        omega
      · have := huk j hj _ e
        omega
  · refine ⟨ha.new hg, o1, .inr ?_⟩
    rcases h3.2 with ⟨_, hn⟩ | ⟨g, cap, cur, t, rfl, hb, _⟩
    · omega
    · have := hga.size
      exact ⟨g, rfl, by omega⟩

theorem Gbq.push {Q : Nat → Prop} {B S : Nat} {w wr wa w' : World} {rv : Value} {K : Nat} {v : Nat → Value} {n : Nat → Nat} {gr gr' : Value} {k : Nat} {u : Nat → Value} {m : Nat → Nat} (h : Gbq Q B S w wr rv K v n gr k k u m) (hk : k < K) {x : Value} (hga : wr.grownBy wa none)
    (own' : w'.ownsRow S 25 1 gr' (k + 1) ((List.range k).map u ++ [x])) (hg : wa.grownBy w' gr.ownBlock) (hx : Pbm B wr x k (n k + 64) (m k)) (hxb : x.ownBlock = (v k).ownBlock ∨ ∃ b, x.ownBlock = some b ∧ S ≤ b) :
    Gbq Q B S w w' rv K v n gr' (k + 1) (k + 1) (fun j => if j < k then u j else x) m := by
  have ha := h.new hga
  have hxa := hx.kept hga (none_or _)
  have keep : ∀ {y : Value} {a b c : Nat}, Pbm B wa y a b c → Pbm B w' y a b c := fun hp => by
    obtain ⟨Y, ho, hl, hm⟩ := hp
    exact ⟨Y, Orw.apart ho ha.grow hg, hl, hm⟩
  have hgB : ∀ b, gr.ownBlock = some b → S ≤ b := fun b e => (World.ownsRow.lt ha.grow b e).1
  have hr : rv.ownBlock = none ∨ rv.ownBlock ≠ gr.ownBlock := by
    cases e : rv.ownBlock with
    | none => exact .inl rfl
    | some b => exact .inr fun e' => by have h1 := h.rb b e; have h2 := hgB b e'.symm; omega
  refine ⟨⟨World.ownsRow.kept ha.ap.row hg hr, fun j hj => keep (ha.ap.pm j hj), ha.ap.bel.grown hg (Nat.le_trans ha.hB ha.sz) (fun b e => Nat.le_trans h.hB (hgB b e)), ha.ap.ko.trans (KeepsOthers.of_grownBy hg (row_cells ha.grow)), fun q hq => (hg.block q (Nat.lt_of_lt_of_le (ha.ap.qs q hq) ha.ap.bel.size) (fun e => by have h7 := hgB q e.symm; have h8 := ha.ap.qs q hq; have h9 := h.sw; omega)).trans (ha.ap.kp q hq), h.ap.qv, h.ap.qs⟩, ?_, fun j hj => ?_, fun j hj => ?_, Nat.le_trans ha.sz hg.size, h.hB, h.vb, h.rb, h.hap, hk, h.sw⟩
  · have : (List.range (k + 1)).map (fun j => if j < k then u j else x) = (List.range k).map u ++ [x] := by
      rw [List.range_succ, List.map_append]
      simp only [List.map_cons, List.map_nil, Nat.lt_irrefl, if_false]
      congr 1
      exact List.map_congr_left fun j hj => by rw [if_pos (List.mem_range.1 hj)]
    rw [this]
    exact own'
  · by_cases e : j < k
    · rw [if_pos e]; exact keep (ha.gp j e)
    · obtain rfl : j = k := by omega
      rw [if_neg e]; exact keep hxa
  · by_cases e : j < k
    · rw [if_pos e]; exact h.gb j e
    · obtain rfl : j = k := by omega
      rw [if_neg e]; exact hxb

theorem Gbq.put {Q : Nat → Prop} {B S : Nat} {w wr : World} {rv : Value} {K : Nat} {v : Nat → Value} {n : Nat → Nat} {gg cap : Nat} {k : Nat} {u : Nat → Value} {m : Nat → Nat} (h : Gbq Q B S w wr rv K v n (.slice (some ⟨gg, 0, none⟩) K cap) K k u m) (hk : k < K) {x : Value}
    (hx : Pbm B wr x k (n k + 64) (m k)) (hxb : x.ownBlock = (v k).ownBlock ∨ ∃ b, x.ownBlock = some b ∧ S ≤ b) :
    Gbq Q B S w (wr.setCell ⟨gg, k, none⟩ x) rv K v n (.slice (some ⟨gg, 0, none⟩) K cap) K (k + 1) (fun j => if j = k then x else u j) m := by
  obtain ⟨s1, s2⟩ := World.ownsRow.stored h.grow k x
  have hgS : S ≤ gg := (World.ownsRow.lt h.grow gg rfl).1
  have keep : ∀ {y : Value} {a b c : Nat}, Pbm B wr y a b c → Pbm B (wr.setCell ⟨gg, k, none⟩ x) y a b c := fun hp => by
    obtain ⟨Y, ho, hl, hm⟩ := hp
    exact ⟨Y, Orw.apart ho h.grow s2, hl, hm⟩
  have hr : rv.ownBlock = none ∨ rv.ownBlock ≠ some gg := .inr fun e => by have := h.rb gg e; omega
  refine ⟨⟨World.ownsRow.kept h.ap.row s2 hr, fun j hj => keep (h.ap.pm j hj), h.ap.bel.setCell (p := ⟨gg, k, none⟩) (Nat.le_trans h.hB hgS) _, h.ap.ko.trans (KeepsOthers.setCell _ _ _), fun q hq => (heap_other (W := wr) ⟨gg, k, none⟩ _ (fun e9 => by have h7 : gg = q := e9; have h8 := h.ap.qs q hq; have h9 := h.sw; omega)).trans (h.ap.kp q hq), h.ap.qv, h.ap.qs⟩, ?_, fun j hj => ?_, fun j hj => ?_, Nat.le_trans h.sz s2.size, h.hB, h.vb, h.rb, h.hap, hk, h.sw⟩
  · have : ((List.range K).map u).set k x = (List.range K).map (fun j => if j = k then x else u j) := by
      apply List.ext_getElem?
      intro j
      rw [List.getElem?_set, List.getElem?_map, List.getElem?_map]
      by_cases e : k = j
      · subst e
        simp [hk]
      · have e' : ¬ j = k := fun h => e h.symm
        by_cases hj : j < K <;> simp [e, e', hj]
    rw [← this]
    exact s1
  · by_cases e : j = k
    · subst e; rw [if_pos rfl]; exact keep hx
    · rw [if_neg e]; exact keep (h.gp j (by omega))
  · by_cases e : j = k
    · subst e; rw [if_pos rfl]; exact hxb
    · rw [if_neg e]; exact h.gb j (by omega)

end Go.Proofs.YtlkbbbbclmffjaaGreatDoor
set_option linter.unusedSimpArgs false
set_option linter.unusedVariables false
namespace Go.Proofs.YtlkbbbbclmffjaaGreatDoor
open Go Go.RowKit Go.Shelf

attribute [local go_sem] Oper.semAt_some

theorem Gbq.drew {Q : Nat → Prop} {B S : Nat} {w wr : World} {rv : Value} {K : Nat} {v : Nat → Value} {n : Nat → Nat} {gr : Value} {kr k : Nat} {u : Nat → Value} {m : Nat → Nat} (h : Gbq Q B S w wr rv K v n gr kr k u m) : Gbq Q B S w wr.drew rv K v n gr kr k u m :=
  ⟨h.ap.drew, h.grow, h.gp, h.gb, h.sz, h.hB, h.vb, h.rb, h.hap, h.hk, h.sw⟩
theorem Gbq.drewN {Q : Nat → Prop} {B S : Nat} {w wr : World} {rv : Value} {K : Nat} {v : Nat → Value} {n : Nat → Nat} {gr : Value} {kr k : Nat} {u : Nat → Value} {m : Nat → Nat} (h : Gbq Q B S w wr rv K v n gr kr k u m) (q : Nat) : Gbq Q B S w (wr.drewN q) rv K v n gr kr k u m := by
  refine h.new ?_
  exact grown_of_below (below_drewN _ _)
theorem szB (w : World) (o : Obj) : w.heap.size < (w.alloc o).heap.size := by simp
theorem own_sliceB {B : Nat} {w : World} {x : Value} {Y : List Bool} (h : Obw B w x Y) : ∃ a c, x = .slice a Y.length c := Orw.slice h
theorem row_sliceB {B K : Nat} {e : TypeId} {w : World} {x : Value} {xs : List Value} (h : w.ownsRow B e 1 x K xs) : ∃ a c, x = .slice a K c := by
  rcases h.2 with ⟨hv, hn⟩ | ⟨g, cap, cur, hv, _⟩
  · exact ⟨none, 0, by rw [hv, hn]⟩
  · exact ⟨_, _, hv⟩
/-- a list of truths of the call's own -/
def Obn (base : Nat) (w : World) (v : Value) (Y : List Bool) : Prop := w.ownsRow base 4 1 v Y.length (Y.map Value.bool)
theorem bools_oneCell (l : List Bool) : ∀ u ∈ l.map Value.bool, u.oneCell' = true := by
  intro u hu
  obtain ⟨b, _, rfl⟩ := List.mem_map.1 hu
  rfl
theorem Gbq.side {Q : Nat → Prop} {B S Sk N : Nat} {w wr wa w' : World} {rv : Value} {K : Nat} {v : Nat → Value} {n : Nat → Nat} {gr mv : Value} {kr k : Nat} {u : Nat → Value} {m : Nat → Nat} {xs : List Value} (h : Gbq Q B S w wr rv K v n gr kr k u m) (hSk : S ≤ Sk)
    (huk : ∀ j, j < k → ∀ b, (u j).ownBlock = some b → b < Sk) (hga : wr.grownBy wa none) (hm : wa.ownsRow Sk 4 1 mv N xs) (hg : wa.grownBy w' mv.ownBlock) : Gbq Q B S w w' rv K v n gr kr k u m := by
  have ha := h.new hga
  cases e : mv.ownBlock with
  | none => rw [e] at hg; exact ha.new hg
  | some g =>
    have hS : Sk ≤ g := (World.ownsRow.lt hm g e).1
    rw [e] at hg
    refine ha.step hg (fun b e' => by cases e'; have := h.hB; omega) (fun b e' hq => by cases e'; have h7 := h.ap.qs _ hq; have h8 := h.sw; omega) (fun j o e' hj => row_cells hm j o (by rw [e]; exact e') hj) (fun j hj => (ha.ap.pm j hj).kept hg (.inr fun e' => ?_)) (.inr (block_apart (by decide) ha.ap.row hm e)) (.inr (block_apart (by decide) ha.grow hm e)) (fun j hj => .inr fun e' => ?_)
    · have := h.vb j hj _ e'
      omega
    · have := huk j hj _ e'
      omega

set_option maxRecDepth 100000 in
set_option maxHeartbeats 8000000 in
theorem apart_b (Q : Nat → Prop) (B : Nat) (rv : Value) (K : Nat) (v : Nat → Value) (n : Nat → Nat) (w : World) (hB : B ≤ w.heap.size)
    (hrow : w.ownsRow B 25 1 rv K ((List.range K).map v)) (hown : ∀ j, j < K → ∃ Y, Obw B w (v j) Y ∧ Y.length = n j)
    (hap : ∀ i j, i < K → j < K → i ≠ j → (v i).ownBlock = none ∨ (v i).ownBlock ≠ (v j).ownBlock) (hK : K * 24 ≤ 140737488351232) (hn : ∀ j, j < K → n j * 8 ≤ 140737488353280) (hqv : ∀ j, j < K → ∀ b, (v j).ownBlock = some b → ¬ Q b) (hqs : ∀ k, Q k → k < w.heap.size) :
    Calls Tryz.prog 34 #[rv] w fun e w' => e = .returned (.bool true) ∧ Below B w w' ∧ ∀ k, Q k → w'.heap[k]? = w.heap[k]? := by
  obtain ⟨i0, hi, hz0, hz1, hz2⟩ := info_parts infoBt
  obtain ⟨iL, hiL, hL0, hL1, hL2⟩ := info_parts infoBr
  have A0 : Hid (Abq Q B w w rv K v n (fun _ => 0)) := ⟨hrow, fun j hj => by obtain ⟨Y, h1, h2⟩ := hown j hj; exact ⟨Y, h1, h2, fun t ht => by omega⟩, Below.refl _ _, KeepsOthers.refl _, fun _ _ => rfl, hqv, hqs⟩
  obtain ⟨ar, cr, rfl⟩ : ∃ ar cr, rv = .slice ar K cr := row_sliceB hrow
  have HAP : Hid (∀ i j, i < K → j < K → i ≠ j → (v i).ownBlock = none ∨ (v i).ownBlock ≠ (v j).ownBlock) := hap
  have HN : Hid (∀ j, j < K → n j * 8 ≤ 140737488353280) := hn
  clear hap hn hrow hown
  go_enter Tryz.func34, Tryz.ntmps34
  go_wp2
  go_loopg [3] K (fun g i wr => ∃ k : Nat, k + g = K ∧ i = .int .i64 k ∧ Abq Q B w wr (.slice ar K cr) K v n (fun j => if j < k then n j else 0))
  case atStart => exact ⟨0, by omega, rfl, A0.out.weaken (fun j _ => by simp)⟩
  case round =>
  obtain ⟨k, hk, rfl, ap⟩ := hrel
  have HK : Hid (k + gk = K) := hk
  by_cases hlt : k < K
  · have AP : Hid (Abq Q B w wr (.slice ar K cr) K v n (fun j => if j < k then n j else 0)) := ap
    obtain ⟨gr, cap, er, hcap, hcell⟩ := row_atb ap.row hlt
    simp only [Value.slice.injEq, true_and] at er
    obtain ⟨rfl, rfl⟩ := er
    have hnk := HN.out k hlt
    clear ap hk
    obtain ⟨nk, hnk'⟩ : ∃ nk, n k = nk := ⟨_, rfl⟩
    rw [hnk'] at hnk
    have HNK : Hid (n k = nk) := hnk'
    clear hnk' hcell
    go_wp2
    go_loopg [4] nk (fun g i wq => ∃ i' : Nat, i' + g = nk ∧ i = .int .i64 i' ∧ Abq Q B w wq (.slice (some ⟨gr, 0, none⟩) K cr) K v n (fun j => if j < k then n j else if j = k then i' else 0))
    case atStart => exact ⟨0, by omega, rfl, AP.out.weaken (fun j _ => by simp)⟩
    case round =>
      obtain ⟨i, hi', rfl, ap⟩ := hrel
      have HI : Hid (i + gk = nk) := hi'
      by_cases hil : i < nk
      · obtain ⟨_, _, er, -, hcell⟩ := row_atb ap.row hlt
        cases er
        obtain ⟨g, cap, y, e, hcp, q1, q2, apm⟩ := ap.mark HAP.out hlt (i := i) (by simp) (by rw [HNK.out]; exact hil)
        rw [e, HNK.out] at hcell
        have APM : Hid (Abq Q B w (wr.setCell ⟨g, i, none⟩ (.bool (mrb k i))) (.slice (some ⟨gr, 0, none⟩) K cr) K v n (fun j => if j = k then i + 1 else if j < k then n j else if j = k then i else 0)) := apm
        rw [HNK.out] at hcp
        have hme : ((13 * (k : Int) + 5 * (i : Int)) % 3 == 0) = mrb k i := rfl
        clear ap apm hi' e
        generalize mrb k i = mk at *
        go_wp2
        go_roundg (gk - 1)
        case measure => have := HI.out; omega
        case rel => exact ⟨i + 1, by have := HI.out; omega, by go_num, APM.out.weaken (fun j _ => by
          by_cases e1 : j = k
          · subst e1; simp
          · simp [e1])⟩
      · have e : nk = i := by omega
        subst e
        clear hi' hil
        obtain ⟨_, _, er, -, hcell⟩ := row_atb ap.row hlt
        cases er
        obtain ⟨ax, cx, e⟩ := (ap.pm k hlt).slice
        rw [e, HNK.out] at hcell
        have AP2 : Hid (Abq Q B w wr (.slice (some ⟨gr, 0, none⟩) K cr) K v n (fun j => if j < k then n j else if j = k then nk else 0)) := ap
        clear ap e
        go_wp2
        go_roundg (K - k - 1)
        case measure => have := HK.out; omega
        case rel => exact ⟨k + 1, by have := HK.out; omega, by go_num, AP2.out.weaken (fun j _ => by
            by_cases e1 : j = k
            · subst e1; simp [HNK.out]
            · by_cases e2 : j < k
              · simp [e2, show j < k + 1 by omega]
              · simp [show ¬ j < k + 1 by omega])⟩
  have e : K = k := by omega
  subst e
  clear hk hlt HK A0
  have ap3 := ap.weaken (c' := n) (fun j hj => by simp [hj])
  have sB : B ≤ wr.heap.size := Nat.le_trans hB ap.bel.size
  have G0 : Hid (Gbq Q B wr.heap.size w wr (.slice ar K cr) K v n (.slice none 0 0) 0 0 (fun _ => .slice none 0 0) (fun j => n j + 64)) :=
    ⟨ap3, World.ownsRow_nil _ _ _ _, fun j hj => by omega, fun j hj => by omega, Nat.le_refl _, sB, fun j hj b e => ((ap3.pm j hj).lt b e).2, fun b e => (World.ownsRow.lt ap3.row b e).2, HAP.out, Nat.zero_le _, ap.bel.size⟩
  clear ap ap3
  generalize wr = w3 at *
  go_wp2
  go_loopg [5, 6] K (fun g gsv kv wr => ∃ (k : Nat) (u : Nat → Value) (ag : Option Addr) (cg : Nat), k + g = K ∧ gsv = .slice ag k cg ∧ kv = .int .i64 k ∧ Gbq Q B w3.heap.size w wr (.slice ar K cr) K v n (.slice ag k cg) k k u (fun j => n j + 64))
  case atStart => exact ⟨0, _, none, 0, by omega, rfl, rfl, G0.out⟩
  case round =>
  obtain ⟨k, u, ag, cg, hk, rfl, rfl, gs⟩ := hrel
  have HK : Hid (k + gk = K) := hk
  by_cases hlt : k < K
  · obtain ⟨gr, cap, er, hcap, hcell⟩ := row_atb gs.ap.row hlt
    simp only [Value.slice.injEq, true_and] at er
    obtain ⟨rfl, rfl⟩ := er
    have hnk := HN.out k hlt
    obtain ⟨nk, hnk'⟩ : ∃ nk, n k = nk := ⟨_, rfl⟩
    rw [hnk'] at hnk
    have HNK : Hid (n k = nk) := hnk'
    obtain ⟨Y0, ho0, hl0, hm0⟩ := gs.ap.pm k hlt
    rw [hnk'] at hl0 hm0
    obtain ⟨a0, c0, e0⟩ := own_sliceB ho0
    rw [hl0] at e0
    have HE0 : Hid (v k = .slice a0 nk c0) := e0
    rw [e0] at hcell ho0
    have HO0 : Hid (Obw B wr (.slice a0 nk c0) Y0) := ho0
    have HL0 : Hid (Y0.length = nk) := hl0
    have HM0 : Hid (∀ t, t < nk → Y0.getD t false = mrb k t) := hm0
    have GS : Hid (Gbq Q B w3.heap.size w wr (.slice (some ⟨gr, 0, none⟩) K cr) K v n (.slice ag k cg) k k u (fun j => n j + 64)) := gs
    have HUK : Hid (∀ j, j < k → ∀ b, (u j).ownBlock = some b → b < wr.heap.size) := fun j hj b e => ((gs.gp j hj).lt b e).2
    have hS3 : w3.heap.size ≤ wr.heap.size := gs.sz
    clear gs hk hnk' e0 ho0 hl0 hm0
    generalize wr = w4 at *
    go_wp2
    clear hcell
    go_loopg [7, 8] 64 (fun g x iv wq => ∃ (i : Nat) (Y : List Bool) (ax : Option Addr) (cx : Nat), i + g = 64 ∧ x = .slice ax (nk + i) cx ∧ iv = .int .i64 i ∧ Obw B wq (.slice ax (nk + i) cx) Y ∧ Y.length = nk + i ∧ (∀ t, t < nk + i → Y.getD t false = mrb k t) ∧
      ((Value.slice ax (nk + i) cx).ownBlock = (v k).ownBlock ∨ ∃ b, (Value.slice ax (nk + i) cx).ownBlock = some b ∧ w4.heap.size ≤ b) ∧ Gbq Q B w3.heap.size w wq (.slice (some ⟨gr, 0, none⟩) K cr) K v n (.slice ag k cg) k k u (fun j => n j + 64) ∧ w4.heap.size ≤ wq.heap.size)
    case atStart => exact ⟨0, Y0, a0, c0, by omega, rfl, rfl, HO0.out, HL0.out, HM0.out, .inl (by rw [HE0.out]; rfl), GS.out, Nat.le_refl _⟩
    case round =>
      obtain ⟨i, Y, ax, cx, hi', rfl, rfl, ho, hl, hm, hxb, gs, hsz⟩ := hrel
      have HI : Hid (i + gk = 64) := hi'
      by_cases hil : i < 64
      · obtain ⟨_, _, er, -, hcell⟩ := row_atb gs.ap.row hlt
        cases er
        rw [HE0.out] at hcell
        have hme : ((13 * (k : Int) + 5 * ((nk : Int) + (i : Int))) % 3 == 0) = mrb k (nk + i) := by unfold mrb; rw [Int.natCast_add]
        have HO : Hid (Obw B wr (.slice ax (nk + i) cx) Y) := ho
        have HL : Hid (Y.length = nk + i) := hl
        have HMM : Hid (∀ t, t < nk + i → Y.getD t false = mrb k t) := hm
        have HXB : Hid ((Value.slice ax (nk + i) cx).ownBlock = (v k).ownBlock ∨ ∃ b, (Value.slice ax (nk + i) cx).ownBlock = some b ∧ w4.heap.size ≤ b) := hxb
        have GS2 : Hid (Gbq Q B w3.heap.size w wr (.slice (some ⟨gr, 0, none⟩) K cr) K v n (.slice ag k cg) k k u (fun j => n j + 64)) := gs
        have sBr : B ≤ wr.heap.size := Nat.le_trans gs.hB gs.sz
        clear ho hl hm hxb gs hi'
        obtain ⟨mk, hmk⟩ : ∃ mk, mrb k (nk + i) = mk := ⟨_, rfl⟩
        have HMK : Hid (mrb k (nk + i) = mk) := hmk
        rw [hmk] at hme
        clear hmk
        go_wp2_with (at_builtin; refine wpList_append_twoB _ rfl _ _ 25 rfl B 4 i0 (.bool false) 1 Tryz.underlying25 hi hz0 hz1 hz2 rfl (by decide) _ Y.length (Y.map Value.bool) rfl (Orw.alloc HO.out _) ⟨wr.heap.size, 0, none⟩ 1 1 [.bool mk] rfl rfl (cell_one_new _ _ _) (by simp [Value.oneCell']) (by omega) (by rw [HL.out]; unfold maxLen; omega) (by rw [HL.out]; omega) (by simp; omega) ?_; intro x' w' own' h2)
        obtain ⟨gs', ho', hxb'⟩ := GS2.out.app (nz := [mk]) hlt hS3 hsz HUK.out HO.out (by rw [HNK.out, HL.out]; omega) HXB.out (World.grownBy_alloc _ _ none) (by simp) own' h2
        obtain ⟨ax', cx', e'⟩ := own_sliceB ho'
        have hl' : (Y ++ [mk]).length = nk + (i + 1) := by rw [List.length_append, HL.out]; rfl
        rw [hl'] at e'
        subst e'
        have hm' : ∀ t, t < nk + (i + 1) → (Y ++ [mk]).getD t false = mrb k t := fun t ht => by
          by_cases e : t < nk + i
          · rw [← HMM.out t e, List.getD_eq_getElem?_getD, List.getD_eq_getElem?_getD, List.getElem?_append_left (by rw [HL.out]; exact e)]
          · obtain rfl : t = nk + i := by omega
            rw [HMK.out, List.getD_eq_getElem?_getD, ← HL.out, List.getElem?_concat_length]
            rfl
        have hsz' : w4.heap.size ≤ w'.heap.size := by
          have h0 : wr.heap.size ≤ (wr.alloc (.cells #[.bool mk] 4)).heap.size := Nat.le_of_lt (szB _ _)
          rcases h2 with ⟨_, _, _, _, h3⟩ | ⟨_, h3⟩ <;> exact Nat.le_trans hsz (Nat.le_trans h0 h3.size)
        go_roundg (gk - 1)
        case measure => have := HI.out; omega
        case rel => exact ⟨i + 1, Y ++ [mk], ax', cx', by have := HI.out; omega, rfl, by go_num, ho', hl', hm', hxb', gs', hsz'⟩
      · obtain rfl : i = 64 := by omega
        clear hi' hil
        have PX : Hid (Pbm B wr (.slice ax (nk + 64) cx) k (n k + 64) (n k + 64)) := ⟨Y, ho, by rw [HNK.out]; exact hl, by rw [HNK.out]; exact hm⟩
        have HXB : Hid ((Value.slice ax (nk + 64) cx).ownBlock = (v k).ownBlock ∨ ∃ b, (Value.slice ax (nk + 64) cx).ownBlock = some b ∧ w3.heap.size ≤ b) := by
          rcases hxb with q | ⟨b, q, hb⟩
          · exact .inl q
          · exact .inr ⟨b, q, Nat.le_trans hS3 hb⟩
        have GS2 : Hid (Gbq Q B w3.heap.size w wr (.slice (some ⟨gr, 0, none⟩) K cr) K v n (.slice ag k cg) k k u (fun j => n j + 64)) := gs
        have sS : w3.heap.size ≤ wr.heap.size := gs.sz
        clear ho hl hm hxb gs
        go_wp2_with (at_builtin; refine wpList_append_own _ rfl _ _ 62 rfl w3.heap.size 25 iL (.slice none 0 0) 1 24 Tryz.underlying62 hiL hL0 hL1 hL2 rfl (by decide) _ k ((List.range k).map u) rfl (World.ownsRow.alloc GS2.out.grow _) ⟨wr.heap.size, 0, none⟩ 1 1 [.slice ax (nk + 64) cx] rfl rfl (cell_one_new _ _ _) (by simp [Value.oneCell']) (by unfold maxLen; omega) (by omega) (by simp; omega) ?_; intro gr' w' own' gr2 hn')
        have gs' := GS2.out.push hlt (World.grownBy_alloc _ _ none) own' gr2 PX.out HXB.out
        obtain ⟨ag', cg', e'⟩ := row_sliceB own'
        subst e'
        go_roundg (K - k - 1)
        case measure => have := HK.out; omega
        case rel => exact ⟨k + 1, _, ag', cg', by have := HK.out; omega, rfl, by go_num, gs'⟩
  have e : K = k := by omega
  subst e
  clear hk hlt HK G0
  have G5 : Hid (Gbq Q B w3.heap.size w wr (.slice ar K cr) K v n (.slice ag K cg) K K u (fun j => n j + 64)) := gs
  clear gs
  generalize wr = w5 at *
  go_wp2
  go_loopg [9] K (fun g kv wr => ∃ k : Nat, k + g = K ∧ kv = .int .i64 k ∧ Gbq Q B w3.heap.size w wr (.slice ar K cr) K v n (.slice ag K cg) K K u (fun j => n j + 64))
  case atStart => exact ⟨0, by omega, rfl, G5.out⟩
  case round =>
  obtain ⟨k, hk, rfl, gs⟩ := hrel
  have HK : Hid (k + gk = K) := hk
  by_cases hlt : k < K
  · obtain ⟨gr, cap, er, hcap, -⟩ := row_atb gs.ap.row hlt
    simp only [Value.slice.injEq, true_and] at er
    obtain ⟨rfl, rfl⟩ := er
    obtain ⟨gg, cap', er, hcap', -⟩ := row_atb gs.grow hlt
    simp only [Value.slice.injEq, true_and] at er
    obtain ⟨rfl, rfl⟩ := er
    have hnk := HN.out k hlt
    obtain ⟨nk, hnk'⟩ : ∃ nk, n k = nk := ⟨_, rfl⟩
    rw [hnk'] at hnk
    have HNK : Hid (n k = nk) := hnk'
    obtain ⟨av, cv, ev⟩ := (gs.ap.pm k hlt).slice
    obtain ⟨au, cu, eu⟩ := (gs.gp k hlt).slice
    rw [hnk'] at ev eu
    have HEV : Hid (v k = .slice av nk cv) := ev
    have HEU : Hid (u k = .slice au (nk + 64) cu) := eu
    have GS : Hid (Gbq Q B w3.heap.size w wr (.slice (some ⟨gr, 0, none⟩) K cr) K v n (.slice (some ⟨gg, 0, none⟩) K cg) K K u (fun j => n j + 64)) := gs
    clear gs hk hnk' ev eu
    go_wp2
    go_loopg [10] (nk + 64) (fun g iv wq => ∃ i : Nat, i + g = nk + 64 ∧ iv = .int .i64 i ∧ Gbq Q B w3.heap.size w wq (.slice (some ⟨gr, 0, none⟩) K cr) K v n (.slice (some ⟨gg, 0, none⟩) K cg) K K u (fun j => n j + 64))
    case atStart => exact ⟨0, by omega, rfl, GS.out⟩
    case round =>
      obtain ⟨i, hi', rfl, gs⟩ := hrel
      have HI : Hid (i + gk = nk + 64) := hi'
      obtain ⟨_, _, er, -, hcv⟩ := row_atb gs.ap.row hlt
      cases er
      obtain ⟨_, _, er, -, hcu⟩ := row_atb gs.grow hlt
      cases er
      rw [HEV.out] at hcv
      rw [HEU.out] at hcu
      have GS2 : Hid (Gbq Q B w3.heap.size w wr (.slice (some ⟨gr, 0, none⟩) K cr) K v n (.slice (some ⟨gg, 0, none⟩) K cg) K K u (fun j => n j + 64)) := gs
      by_cases hil : i < nk + 64
      · obtain ⟨ug, uc, e1, hc1, hx1⟩ := (gs.gp k hlt).cell (i := i) (by rw [HNK.out]; exact hil) (by show i < n k + 64; rw [HNK.out]; exact hil)
        rw [HEU.out, HNK.out] at e1
        cases e1
        rw [HNK.out] at hc1
        have hme : ((13 * (k : Int) + 5 * (i : Int)) % 3 == 0) = mrb k i := rfl
        by_cases hiv : i < nk
        · obtain ⟨vg, vc, e2, hc2, hx2⟩ := (gs.ap.pm k hlt).cell (i := i) (by rw [HNK.out]; exact hiv) (by rw [HNK.out]; exact hiv)
          rw [HEV.out, HNK.out] at e2
          cases e2
          rw [HNK.out] at hc2
          clear gs hi'
          generalize mrb k i = mk at *
          go_wp2
          go_roundg (gk - 1)
          case measure => have := HI.out; omega
          case rel => exact ⟨i + 1, by have := HI.out; omega, by go_num, GS2.out⟩
        · have hdv : decide (i < nk) = false := decide_eq_false hiv
          have hdv' : decide ((i : Int) < (nk : Int)) = false := decide_eq_false (by omega)
          clear gs hi'
          generalize mrb k i = mk at *
          go_wp2
          go_roundg (gk - 1)
          case measure => have := HI.out; omega
          case rel => exact ⟨i + 1, by have := HI.out; omega, by go_num, GS2.out⟩
      · obtain rfl : i = nk + 64 := by omega
        clear gs hi' hil
        go_wp2
        go_roundg (K - k - 1)
        case measure => have := HK.out; omega
        case rel => exact ⟨k + 1, by have := HK.out; omega, by go_num, GS2.out⟩
  have e : K = k := by omega
  subst e
  clear hk hlt HK G5
  have G7 : Hid (Gbq Q B w3.heap.size w wr (.slice ar K cr) K v n (.slice ag K cg) K 0 u n) := ⟨gs.ap, gs.grow, fun j hj => by omega, fun j hj => by omega, gs.sz, gs.hB, gs.vb, gs.rb, gs.hap, Nat.zero_le _, gs.sw⟩
  clear gs
  generalize wr = w6 at *
  go_wp2
  go_loopg [11] K (fun g kv wr => ∃ (k : Nat) (u : Nat → Value), k + g = K ∧ kv = .int .i64 k ∧ Gbq Q B w3.heap.size w wr (.slice ar K cr) K v n (.slice ag K cg) K k u n)
  case atStart => exact ⟨0, u, by omega, rfl, G7.out⟩
  case round =>
  clear G7
  obtain ⟨k, u, hk, rfl, gs⟩ := hrel
  have HK : Hid (k + gk = K) := hk
  by_cases hlt : k < K
  · obtain ⟨gr, cap, er, hcap, -⟩ := row_atb gs.ap.row hlt
    simp only [Value.slice.injEq, true_and] at er
    obtain ⟨rfl, rfl⟩ := er
    obtain ⟨gg, cap', er, hcap', -⟩ := row_atb gs.grow hlt
    simp only [Value.slice.injEq, true_and] at er
    obtain ⟨rfl, rfl⟩ := er
    have hnk := HN.out k hlt
    obtain ⟨nk, hnk'⟩ : ∃ nk, n k = nk := ⟨_, rfl⟩
    rw [hnk'] at hnk
    have HNK : Hid (n k = nk) := hnk'
    have GS : Hid (Gbq Q B w3.heap.size w wr (.slice (some ⟨gr, 0, none⟩) K cr) K v n (.slice (some ⟨gg, 0, none⟩) K cg) K k u n) := gs
    have HUK : Hid (∀ j, j < k → ∀ b, (u j).ownBlock = some b → b < wr.heap.size) := fun j hj b e => ((gs.gp j hj).lt b e).2
    have hS3 : w3.heap.size ≤ wr.heap.size := gs.sz
    clear gs hk hnk'
    generalize wr = w7 at *
    go_wp2
    go_loopg [12, 13] 64 (fun g mv iv wq => ∃ (i : Nat) (am : Option Addr) (cm : Nat), i + g = 64 ∧ mv = .slice am i cm ∧ iv = .int .i64 i ∧ Obn w7.heap.size wq (.slice am i cm) ((List.range i).map (fun t => mrb (k + K) t)) ∧
      Gbq Q B w3.heap.size w wq (.slice (some ⟨gr, 0, none⟩) K cr) K v n (.slice (some ⟨gg, 0, none⟩) K cg) K k u n ∧ w7.heap.size ≤ wq.heap.size)
    case atStart => exact ⟨0, none, 0, by omega, rfl, rfl, World.ownsRow_nil _ _ _ _, GS.out, Nat.le_refl _⟩
    case round =>
      obtain ⟨i, am, cm, hi', rfl, rfl, ho, gs, hsz⟩ := hrel
      have HI : Hid (i + gk = 64) := hi'
      have HO : Hid (Obn w7.heap.size wr (.slice am i cm) ((List.range i).map (fun t => mrb (k + K) t))) := ho
      have GS2 : Hid (Gbq Q B w3.heap.size w wr (.slice (some ⟨gr, 0, none⟩) K cr) K v n (.slice (some ⟨gg, 0, none⟩) K cg) K k u n) := gs
      by_cases hil : i < 64
      · have hme : ((13 * ((k : Int) + (K : Int)) + 5 * (i : Int)) % 3 == 0) = mrb (k + K) i := by unfold mrb; rw [Int.natCast_add]
        clear ho gs hi'
        obtain ⟨mk, hmk⟩ : ∃ mk, mrb (k + K) i = mk := ⟨_, rfl⟩
        have HMK : Hid (mrb (k + K) i = mk) := hmk
        rw [hmk] at hme
        clear hmk
        obtain ⟨ms, hms⟩ : ∃ ms, (List.range i).map (fun t => mrb (k + K) t) = ms := ⟨_, rfl⟩
        have HMS : Hid ((List.range i).map (fun t => mrb (k + K) t) = ms) := hms
        have HML : Hid (ms.length = i) := by show _ = _; rw [← hms]; simp
        rw [hms] at HO
        clear hms
        go_wp2_with (at_builtin; refine wpList_append_own _ rfl _ _ 25 rfl w7.heap.size 4 i0 (.bool false) 1 1 Tryz.underlying25 hi hz0 hz1 hz2 rfl (by decide) _ ms.length (ms.map Value.bool) rfl (World.ownsRow.alloc HO.out _) ⟨wr.heap.size, 0, none⟩ 1 1 [.bool mk] rfl rfl (cell_one_new _ _ _) (by simp [Value.oneCell']) (by rw [HML.out]; unfold maxLen; omega) (by rw [HML.out]; omega) (by simp; omega) ?_; intro x' w' own' gr2 hn')
        have gs' := GS2.out.side hS3 HUK.out (World.grownBy_alloc _ _ none) (World.ownsRow.alloc HO.out _) gr2
        have hsz' : w7.heap.size ≤ w'.heap.size := Nat.le_trans (Nat.le_trans hsz (Nat.le_of_lt (szB _ _))) gr2.size
        have ho' : Obn w7.heap.size w' x' ((List.range (i + 1)).map (fun t => mrb (k + K) t)) := by
          rw [List.range_succ, List.map_append, HMS.out, List.map_cons, List.map_nil, HMK.out]
          unfold Obn
          rw [List.length_append, List.map_append]
          exact own'
        obtain ⟨am', cm', e'⟩ := row_sliceB ho'
        have hl' : ((List.range (i + 1)).map (fun t => mrb (k + K) t)).length = i + 1 := by simp
        rw [hl'] at e'
        subst e'
        go_roundg (gk - 1)
        case measure => have := HI.out; omega
        case rel => exact ⟨i + 1, am', cm', by have := HI.out; omega, rfl, by go_num, ho', gs', hsz'⟩
      · obtain rfl : i = 64 := by omega
        clear hi' hil HI
        obtain ⟨_, _, er, -, hcv⟩ := row_atb gs.ap.row hlt
        cases er
        obtain ⟨Y, hoY, hlY, hmY⟩ := gs.ap.pm k hlt
        obtain ⟨av, cv, ev⟩ := own_sliceB hoY
        rw [hlY, HNK.out] at ev
        have HEV : Hid (v k = .slice av nk cv) := ev
        rw [ev] at hcv hoY
        have HOY : Hid (Obw B wr (.slice av nk cv) Y) := hoY
        have HLY : Hid (Y.length = nk) := by show _ = _; rw [hlY]; exact HNK.out
        have HMY : Hid (∀ t, t < n k → Y.getD t false = mrb k t) := hmY
        obtain ⟨ms, hms⟩ : ∃ ms, (List.range 64).map (fun t => mrb (k + K) t) = ms := ⟨_, rfl⟩
        have HML : Hid (ms.length = 64) := by show _ = _; rw [← hms]; simp
        rw [hms] at HO ho
        obtain ⟨gm, cm', em⟩ : ∃ gm cm', Value.slice am 64 cm = .slice (some ⟨gm, 0, none⟩) 64 cm' := by
          rcases ho.2 with ⟨_, h0⟩ | ⟨g, cap, cur, e, _⟩
          · rw [HML.out] at h0; cases h0
          · rw [HML.out] at e; exact ⟨g, cap, e⟩
        cases em
        have HNW : Hid (∀ j u, (ms.map Value.bool)[j]? = some u → wr.cell? ((⟨gm, 0, none⟩ : Addr).add j) = some u) := World.ownsRow.cells ho rfl
        have sBr : B ≤ wr.heap.size := Nat.le_trans gs.hB gs.sz
        clear ho gs hoY hlY hmY hms ev
        go_wp2_with (at_builtin; refine wpList_append_twoB _ rfl _ _ 25 rfl B 4 i0 (.bool false) 1 Tryz.underlying25 hi hz0 hz1 hz2 rfl (by decide) _ Y.length (Y.map Value.bool) rfl HOY.out ⟨gm, 0, none⟩ 64 cm (ms.map Value.bool) rfl (by rw [List.length_map]; exact HML.out) HNW.out (bools_oneCell ms) (by omega) (by rw [HLY.out]; unfold maxLen; omega) (by rw [HLY.out]; omega) sBr ?_; intro x' w' own' h2; have own2 : Orw w' B x' (Y.length + ms.length) (Y.map Value.bool ++ ms.map Value.bool) := (by rw [HML.out]; exact own'); obtain ⟨gs', ho', hxb'⟩ := GS2.out.app (nz := ms) (wa := wr) (Sk := w7.heap.size) hlt hS3 hsz HUK.out HOY.out (Nat.le_of_eq (by rw [HNK.out, HLY.out])) (.inl (congrArg Value.ownBlock HEV.out.symm)) ⟨rfl, rfl, rfl, Nat.le_refl _, fun _ _ _ => rfl⟩ (by rw [HML.out]; omega) own2 (by rw [HML.out]; exact h2); obtain ⟨ax', cx', e'⟩ := own_sliceB ho'; rw [List.length_append, HLY.out, HML.out] at e'; subst e'; obtain ⟨_, _, er, -, hcu⟩ := row_atb gs'.grow hlt; cases er; have hfu := gs'.grow.frozenAt k; have GS3 : Hid (Gbq Q B w3.heap.size w w' (.slice (some ⟨gr, 0, none⟩) K cr) K v n (.slice (some ⟨gg, 0, none⟩) K cg) K k u n) := gs'; clear gs' own' own2 h2)
        have PX : Pbm B w' (.slice ax' (nk + 64) cx') k (n k + 64) (n k) := ⟨Y ++ ms, ho', by rw [List.length_append, HLY.out, HML.out, HNK.out], fun t ht => by
          rw [← HMY.out t ht, List.getD_eq_getElem?_getD, List.getD_eq_getElem?_getD, List.getElem?_append_left (by rw [HLY.out, ← HNK.out]; exact ht)]⟩
        have gs4 := GS3.out.put hlt PX (by
          rcases hxb' with q | ⟨b, q, hb⟩
          · exact .inl q
          · exact .inr ⟨b, q, Nat.le_trans hS3 hb⟩)
        go_roundg (K - k - 1)
        case measure => have := HK.out; omega
        case rel => exact ⟨k + 1, _, by have := HK.out; omega, by go_num, gs4⟩
  have e : K = k := by omega
  subst e
  clear hk hlt HK
  have G9 : Hid (Gbq Q B w3.heap.size w wr (.slice ar K cr) K v n (.slice ag K cg) K K u n) := gs
  clear gs
  generalize wr = w8 at *
  go_wp2
  go_loopg [14] K (fun g kv wr => ∃ k : Nat, k + g = K ∧ kv = .int .i64 k ∧ Gbq Q B w3.heap.size w wr (.slice ar K cr) K v n (.slice ag K cg) K K u n)
  case atStart => exact ⟨0, by omega, rfl, G9.out⟩
  case round =>
  obtain ⟨k, hk, rfl, gs⟩ := hrel
  have HK : Hid (k + gk = K) := hk
  by_cases hlt : k < K
  · obtain ⟨gr, cap, er, hcap, -⟩ := row_atb gs.ap.row hlt
    simp only [Value.slice.injEq, true_and] at er
    obtain ⟨rfl, rfl⟩ := er
    obtain ⟨gg, cap', er, hcap', -⟩ := row_atb gs.grow hlt
    simp only [Value.slice.injEq, true_and] at er
    obtain ⟨rfl, rfl⟩ := er
    have hnk := HN.out k hlt
    obtain ⟨nk, hnk'⟩ : ∃ nk, n k = nk := ⟨_, rfl⟩
    rw [hnk'] at hnk
    have HNK : Hid (n k = nk) := hnk'
    obtain ⟨av, cv, ev⟩ := (gs.ap.pm k hlt).slice
    obtain ⟨au, cu, eu⟩ := (gs.gp k hlt).slice
    rw [hnk'] at ev eu
    have HEV : Hid (v k = .slice av nk cv) := ev
    have HEU : Hid (u k = .slice au (nk + 64) cu) := eu
    have GS : Hid (Gbq Q B w3.heap.size w wr (.slice (some ⟨gr, 0, none⟩) K cr) K v n (.slice (some ⟨gg, 0, none⟩) K cg) K K u n) := gs
    clear gs hk hnk' ev eu
    go_wp2
    go_loopg [15] nk (fun g iv wq => ∃ i : Nat, i + g = nk ∧ iv = .int .i64 i ∧ Gbq Q B w3.heap.size w wq (.slice (some ⟨gr, 0, none⟩) K cr) K v n (.slice (some ⟨gg, 0, none⟩) K cg) K K u n)
    case atStart => exact ⟨0, by omega, rfl, GS.out⟩
    case round =>
      obtain ⟨i, hi', rfl, gs⟩ := hrel
      have HI : Hid (i + gk = nk) := hi'
      obtain ⟨_, _, er, -, hcv⟩ := row_atb gs.ap.row hlt
      cases er
      obtain ⟨_, _, er, -, hcu⟩ := row_atb gs.grow hlt
      cases er
      rw [HEV.out] at hcv
      rw [HEU.out] at hcu
      have GS2 : Hid (Gbq Q B w3.heap.size w wr (.slice (some ⟨gr, 0, none⟩) K cr) K v n (.slice (some ⟨gg, 0, none⟩) K cg) K K u n) := gs
      by_cases hil : i < nk
      · obtain ⟨ug, uc, e1, hc1, hx1⟩ := (gs.gp k hlt).cell (i := i) (by rw [HNK.out]; omega) (by rw [HNK.out]; exact hil)
        rw [HEU.out, HNK.out] at e1
        cases e1
        rw [HNK.out] at hc1
        have hme : ((13 * (k : Int) + 5 * (i : Int)) % 3 == 0) = mrb k i := rfl
        obtain ⟨vg, vc, e2, hc2, hx2⟩ := (gs.ap.pm k hlt).cell (i := i) (by rw [HNK.out]; exact hil) (by rw [HNK.out]; exact hil)
        rw [HEV.out, HNK.out] at e2
        cases e2
        rw [HNK.out] at hc2
        clear gs hi'
        generalize mrb k i = mk at *
        go_wp2
        go_roundg (gk - 1)
        case measure => have := HI.out; omega
        case rel => exact ⟨i + 1, by have := HI.out; omega, by go_num, GS2.out⟩
      · have e : nk = i := by omega
        subst e
        clear gs hi' hil
        go_wp2
        go_roundg (K - k - 1)
        case measure => have := HK.out; omega
        case rel => exact ⟨k + 1, by have := HK.out; omega, by go_num, GS2.out⟩
  have e : K = k := by omega
  subst e
  clear hk hlt HK
  have BE : Hid (Below B w wr ∧ ∀ k, Q k → wr.heap[k]? = w.heap[k]?) := ⟨gs.ap.bel, gs.ap.kp⟩
  clear gs
  go_wp2
  go_ret
  exact ⟨rfl, BE.out⟩

end Go.Proofs.YtlkbbbbclmffjaaGreatDoor
set_option linter.unusedSimpArgs false
set_option linter.unusedVariables false
namespace Go.Proofs.YtlkbbbbclmffjaaGreatDoor
open Go Go.RowKit Go.Shelf

attribute [local go_sem] Oper.semAt_some

/-- the marks behind a list that is lent -/
def mb1 (k : Nat) : Bool := (k : Int) % 3 == 0
def b64 : List Bool := (List.range 64).map mb1
theorem b64_len : b64.length = 64 := by simp [b64]
theorem take_snocB {zs : List Bool} {k : Nat} (hk : k < zs.length) : zs.take (k + 1) = zs.take k ++ [zs.getD k false] := by
  rw [List.take_add_one, List.getD_eq_getElem?_getD]
  simp [hk]
theorem grow_oneB {B : Nat} {w wr w' : World} {u : Value} {n : Nat} {xs : List Value} {o : Obj} (bel : Below B w wr) (hB : B ≤ w.heap.size) (own : wr.ownsRow B 4 1 u n xs) (hg : (wr.alloc o).grownBy w' u.ownBlock) : Below B w w' :=
  (bel.alloc (Nat.le_trans hB bel.size) o).grown hg (Nat.le_trans hB (bel.alloc (Nat.le_trans hB bel.size) o).size) (fun b e => (World.ownsRow.lt own b e).1)
theorem b64_take {k : Nat} (hk : k < 64) : (List.range (k + 1)).map mb1 = (List.range k).map mb1 ++ [mb1 k] := by
  rw [List.range_succ, List.map_append]; rfl
theorem Obn.below {B : Nat} {w w' : World} {v : Value} {Y : List Bool} (h : Obn B w v Y) (hb : Below w.heap.size w w') : Obn B w' v Y := World.ownsRow.kept h (grown_below hb) (none_or _)
theorem Obn.obw {B : Nat} {w : World} {v : Value} {Y : List Bool} (h : Obn B w v Y) : Obw B w v Y := Orw.of h (by decide)
theorem Obn.store {base : Nat} {w : World} {g cap n m : Nat} {Y : List Bool} {z : Bool} (h : Obn base w (.slice (some ⟨g, 0, none⟩) n cap) Y) (hl : Y.length = n) (hm : m < n) :
    Obn base (w.setCell ⟨g, m, none⟩ (.bool z)) (.slice (some ⟨g, 0, none⟩) n cap) (Y.set m z) := by
  subst hl
  have h1 := World.ownsRow.stored h m (.bool z)
  unfold Obn
  rw [List.length_set, List.map_set]
  exact h1.1

set_option maxRecDepth 100000 in
set_option maxHeartbeats 2000000 in
theorem lentB_any (v : Value) (zs : List Bool) (w : World) (hr : RdB w v zs) :
    Calls Tryz.prog 10 #[v] w fun e w' => ∃ v', e = .returned v' ∧ Obn w.heap.size w' v' (zs ++ b64) ∧ Below w.heap.size w w' := by
  have hl := hr.len
  obtain ⟨i0, hi, hz0, hz1, hz2⟩ := info_parts infoBt
  have HR : Hid (∀ W, Below w.heap.size w W → RdB W v zs) := fun W h => hr.below h
  obtain ⟨_, av, cv, rfl, -⟩ := id hr
  clear hr
  go_enter Tryz.func10, Tryz.ntmps10
  go_wp2
  go_loopg [3, 4] zs.length (fun g o i wr => ∃ (k : Nat) (ao : Option Addr) (co : Nat), k + g = zs.length ∧ o = .slice ao k co ∧ i = .int .i64 k ∧ wr.ownsRow w.heap.size 4 1 (.slice ao k co) k ((zs.take k).map Value.bool) ∧ Below w.heap.size w wr)
  case atStart => exact ⟨0, none, 0, by omega, rfl, rfl, World.ownsRow_nil _ _ _ _, Below.refl _ _⟩
  case round =>
  obtain ⟨k, ao, co, hk, rfl, rfl, own, bel⟩ := hrel
  have HK : Hid (k + gk = zs.length) := hk
  by_cases hlt : k < zs.length
  · obtain ⟨_, _, _, e, h2⟩ := HR.out wr bel
    cases e
    obtain ⟨b, off, e, hb, hcell⟩ := h2 (by intro h; rw [h] at hlt; simp at hlt)
    have hck := hcell k hlt
    subst e
    have HT : Hid (zs.take (k + 1) = zs.take k ++ [zs.getD k false]) := take_snocB hlt
    have HOW : Hid (wr.ownsRow w.heap.size 4 1 (.slice ao k co) k ((zs.take k).map Value.bool)) := own
    clear hcell h2 hk own
    generalize zs.getD k false = z at *
    obtain ⟨tk, htk⟩ : ∃ tk, (zs.take k).map Value.bool = tk := ⟨_, rfl⟩
    have HTK : Hid ((zs.take k).map Value.bool = tk) := htk
    rw [htk] at HOW
    clear htk
    have sw : w.heap.size ≤ wr.heap.size := bel.size
    go_wp2_with (at_builtin; refine wpList_append_own _ rfl _ _ 25 rfl w.heap.size 4 i0 (.bool false) 1 1 Tryz.underlying25 hi hz0 hz1 hz2 rfl (by decide) _ k tk rfl (World.ownsRow.alloc HOW.out _) ⟨wr.heap.size, 0, none⟩ 1 1 [.bool z] rfl rfl (cell_one_new _ _ _) (by simp [Value.oneCell']) (by unfold maxLen; omega) (by omega) (by simp; omega) ?_; intro x' w' own' gr2 hn')
    obtain ⟨ao', co', e'⟩ := row_sliceB own'
    subst e'
    have b' := grow_oneB bel (Nat.le_refl _) HOW.out gr2
    go_roundg (gk - 1)
    case measure => have := HK.out; omega
    case rel => exact ⟨k + 1, ao', co', by have := HK.out; omega, rfl, by go_num, by rw [HT.out, List.map_append, HTK.out]; exact own', b'⟩
  have e : k = zs.length := by omega
  subst e
  clear hk hlt HK
  rw [List.take_length] at own
  have OWN : Hid (wr.ownsRow w.heap.size 4 1 (.slice ao zs.length co) zs.length (zs.map Value.bool)) := own
  have BEL : Hid (Below w.heap.size w wr) := bel
  clear own bel
  generalize wr = w2 at *
  go_wp2
  go_loopg [3, 5] 64 (fun g o i wr => ∃ (k : Nat) (ao : Option Addr) (co : Nat), k + g = 64 ∧ o = .slice ao (zs.length + k) co ∧ i = .int .i64 k ∧ wr.ownsRow w.heap.size 4 1 (.slice ao (zs.length + k) co) (zs.length + k) (zs.map Value.bool ++ ((List.range k).map mb1).map Value.bool) ∧ Below w.heap.size w wr)
  case atStart => exact ⟨0, ao, co, by omega, rfl, rfl, by simpa using OWN.out, BEL.out⟩
  case round =>
  clear OWN BEL
  obtain ⟨k, ao, co, hk, rfl, rfl, own, bel⟩ := hrel
  have HK : Hid (k + gk = 64) := hk
  by_cases hlt : k < 64
  · have hme : ((k : Int) % 3 == 0) = mb1 k := rfl
    have HT : Hid ((List.range (k + 1)).map mb1 = (List.range k).map mb1 ++ [mb1 k]) := b64_take hlt
    have HOW : Hid (wr.ownsRow w.heap.size 4 1 (.slice ao (zs.length + k) co) (zs.length + k) (zs.map Value.bool ++ ((List.range k).map mb1).map Value.bool)) := own
    clear hk own
    generalize mb1 k = z at *
    obtain ⟨tk, htk⟩ : ∃ tk, zs.map Value.bool ++ ((List.range k).map mb1).map Value.bool = tk := ⟨_, rfl⟩
    have HTK : Hid (zs.map Value.bool ++ ((List.range k).map mb1).map Value.bool = tk) := htk
    rw [htk] at HOW
    clear htk
    have sw : w.heap.size ≤ wr.heap.size := bel.size
    go_wp2_with (at_builtin; refine wpList_append_own _ rfl _ _ 25 rfl w.heap.size 4 i0 (.bool false) 1 1 Tryz.underlying25 hi hz0 hz1 hz2 rfl (by decide) _ (zs.length + k) tk rfl (World.ownsRow.alloc HOW.out _) ⟨wr.heap.size, 0, none⟩ 1 1 [.bool z] rfl rfl (cell_one_new _ _ _) (by simp [Value.oneCell']) (by unfold maxLen; omega) (by omega) (by simp; omega) ?_; intro x' w' own' gr2 hn')
    obtain ⟨ao', co', e'⟩ := row_sliceB own'
    subst e'
    have b' := grow_oneB bel (Nat.le_refl _) HOW.out gr2
    go_roundg (gk - 1)
    case measure => have := HK.out; omega
    case rel => exact ⟨k + 1, ao', co', by have := HK.out; omega, rfl, by go_num, by rw [HT.out, List.map_append, ← List.append_assoc, HTK.out]; exact own', b'⟩
  have e : k = 64 := by omega
  subst e
  clear hk hlt HK
  have OWN : Hid (Obn w.heap.size wr (.slice ao (zs.length + 64) co) (zs ++ b64)) := by
    show Obn _ _ _ _
    unfold Obn
    rw [List.length_append, b64_len, List.map_append]
    exact own
  clear own
  go_wp2
  go_ret
  exact ⟨_, rfl, OWN.out, bel⟩

theorem own_atB {B : Nat} {w : World} {x : Value} {T : List Bool} (h : Obn B w x T) {i : Nat} (hi : i < T.length) : ∃ g cap, x = .slice (some ⟨g, 0, none⟩) T.length cap ∧ T.length ≤ cap ∧ w.cell? ⟨g, i, none⟩ = some (.bool (T.getD i false)) := by
  obtain ⟨g, cap, e, h1, h2⟩ := Orw.form h.obw (by omega)
  subst e
  refine ⟨g, cap, rfl, h2, ?_⟩
  rw [(Orw.at h.obw hi).1]
  simp [List.getD_eq_getElem?_getD, hi]
theorem cell_app_leftB {B : Nat} {w : World} {x : Value} {zs ms : List Bool} (h : Obn B w x (zs ++ ms)) {i : Nat} (hi : i < zs.length) : ∃ g cap, x = .slice (some ⟨g, 0, none⟩) (zs.length + ms.length) cap ∧ zs.length + ms.length ≤ cap ∧ w.cell? ⟨g, i, none⟩ = some (.bool (zs.getD i false)) := by
  have hl : i < (zs ++ ms).length := by rw [List.length_append]; omega
  have e2 : (zs ++ ms).getD i false = zs.getD i false := by rw [List.getD_eq_getElem?_getD, List.getD_eq_getElem?_getD, List.getElem?_append_left hi]
  have := own_atB h hl
  rwa [e2, List.length_append] at this
theorem cell_app_rightB {B : Nat} {w : World} {x : Value} {zs ms : List Bool} (h : Obn B w x (zs ++ ms)) {i : Nat} (hi : i < ms.length) : ∃ g cap, x = .slice (some ⟨g, 0, none⟩) (zs.length + ms.length) cap ∧ zs.length + ms.length ≤ cap ∧ w.cell? ⟨g, zs.length + i, none⟩ = some (.bool (ms.getD i false)) := by
  have hl : zs.length + i < (zs ++ ms).length := by rw [List.length_append]; omega
  have e2 : (zs ++ ms).getD (zs.length + i) false = ms.getD i false := by rw [List.getD_eq_getElem?_getD, List.getD_eq_getElem?_getD, List.getElem?_append_right (by omega), Nat.add_sub_cancel_left]
  have := own_atB h hl
  rwa [e2, List.length_append] at this
theorem b64_at {i : Nat} (hi : i < 64) : b64.getD i false = mb1 i := by
  unfold b64
  rw [List.getD_eq_getElem?_getD, List.getElem?_map, List.getElem?_range hi]
  rfl

set_option maxRecDepth 100000 in
set_option maxHeartbeats 2000000 in
theorem keptB_any (B : Nat) (x v : Value) (zs : List Bool) (w : World) (ho : Obn B w x (zs ++ b64)) (hr : RdB w v zs) :
    Calls Tryz.prog 12 #[x, v] w fun e w' => e = .returned (.bool true) ∧ Below w.heap.size w w' := by
  have hl := hr.len
  have HR : Hid (∀ W, Below w.heap.size w W → RdB W v zs) := fun W h => hr.below h
  have HO : Hid (∀ W, Below w.heap.size w W → Obn B W x (zs ++ b64)) := fun W h => ho.below h
  obtain ⟨_, av, cv, rfl, -⟩ := id hr
  obtain ⟨ax, cx, e⟩ := row_sliceB ho
  rw [List.length_append, b64_len] at e
  subst e
  clear hr ho
  go_enter Tryz.func12, Tryz.ntmps12
  go_wp2
  go_loopg [5] zs.length (fun g i wr => ∃ k : Nat, k + g = zs.length ∧ i = .int .i64 k ∧ Below w.heap.size w wr)
  case atStart => exact ⟨0, by omega, rfl, Below.refl _ _⟩
  case round =>
  obtain ⟨k, hk, rfl, bel⟩ := hrel
  have HK : Hid (k + gk = zs.length) := hk
  by_cases hlt : k < zs.length
  · obtain ⟨_, _, _, e, h2⟩ := HR.out wr bel
    cases e
    obtain ⟨b, off, e, hb, hcell⟩ := h2 (by intro h; rw [h] at hlt; simp at hlt)
    have hck := hcell k hlt
    subst e
    obtain ⟨g, cap, e, hcap, hcg⟩ := cell_app_leftB (HO.out wr bel) hlt
    rw [b64_len] at e hcap
    cases e
    have BE : Hid (Below w.heap.size w wr) := bel
    clear hcell h2 hk bel
    generalize zs.getD k false = z at *
    go_wp2
    go_quiet (fail)
    go_wp2
    go_roundg (gk - 1)
    case measure => have := HK.out; omega
    case rel => exact ⟨k + 1, by have := HK.out; omega, by go_num, BE.out.trans ((below_drewN _ _).mono BE.out.size)⟩
  have e : k = zs.length := by omega
  subst e
  clear hk hlt HK
  have BEL : Hid (Below w.heap.size w wr) := bel
  clear bel
  generalize wr = w2 at *
  go_wp2
  go_loopg [6] 64 (fun g i wr => ∃ k : Nat, k + g = 64 ∧ i = .int .i64 k ∧ Below w.heap.size w wr)
  case atStart => exact ⟨0, by omega, rfl, BEL.out⟩
  case round =>
  obtain ⟨k, hk, rfl, bel⟩ := hrel
  have HK : Hid (k + gk = 64) := hk
  by_cases hlt : k < 64
  · obtain ⟨g, cap, e, hcap, hcg⟩ := cell_app_rightB (HO.out wr bel) (i := k) (by rw [b64_len]; exact hlt)
    rw [b64_len] at e hcap
    cases e
    rw [b64_at hlt] at hcg
    have hme : ((k : Int) % 3 == 0) = mb1 k := rfl
    have BE : Hid (Below w.heap.size w wr) := bel
    clear hk bel
    generalize mb1 k = z at *
    go_wp2
    go_roundg (gk - 1)
    case measure => have := HK.out; omega
    case rel => exact ⟨k + 1, by have := HK.out; omega, by go_num, BE.out⟩
  have e : k = 64 := by omega
  subst e
  clear hk hlt HK
  go_wp2
  go_ret
  exact ⟨rfl, bel⟩

set_option maxRecDepth 100000 in
set_option maxHeartbeats 2000000 in
theorem overB_any (B : Nat) (x : Value) (X : List Bool) (w : World) (ho : Obn B w x X) (hl : X.length ≤ 140737488355328) :
    Calls Tryz.prog 14 #[x] w fun e w' => (∃ v, e = .returned v) ∧ (∃ Z, Z.length = X.length ∧ Obn B w' x Z) ∧ w.grownBy w' x.ownBlock := by
  obtain ⟨ax, cx, e⟩ := row_sliceB ho
  subst e
  have HO : Hid (Obn B w (.slice ax X.length cx) X) := ho
  clear ho
  go_enter Tryz.func14, Tryz.ntmps14
  go_wp2
  go_loopg [2] X.length (fun g i wr => ∃ (k : Nat) (Y : List Bool), k + g = X.length ∧ i = .int .i64 k ∧ Y.length = X.length ∧ Obn B wr (.slice ax X.length cx) Y ∧ w.grownBy wr (Value.slice ax X.length cx).ownBlock)
  case atStart => exact ⟨0, X, by omega, rfl, rfl, HO.out, ⟨rfl, rfl, rfl, Nat.le_refl _, fun _ _ _ => rfl⟩⟩
  case round =>
  obtain ⟨k, Y, hk, rfl, hY, ho, hg⟩ := hrel
  have HK : Hid (k + gk = X.length) := hk
  by_cases hlt : k < X.length
  · obtain ⟨g, cap, y, e, hbg, hcap, hc1, hc2⟩ := Pbm.place (k := 0) (c := 0) ⟨Y, ho.obw, hY, fun t ht => by omega⟩ hlt
    simp only [Value.slice.injEq, true_and] at e
    obtain ⟨rfl, rfl⟩ := e
    have SX : Hid (∀ z, Obn B (wr.setCell ⟨g, k, none⟩ (.bool z)) (.slice (some ⟨g, 0, none⟩) X.length cx) (Y.set k z)) := fun z => Obn.store ho hY hlt
    have SG : Hid (∀ z, w.grownBy (wr.setCell ⟨g, k, none⟩ z) (some g)) := fun z => hg.trans (grown_set wr ⟨g, k, none⟩ z)
    clear hk ho hg
    go_wp2
    go_roundg (gk - 1)
    case measure => have := HK.out; omega
    case rel => exact ⟨k + 1, _, by have := HK.out; omega, by go_num, by rw [List.length_set]; exact hY, SX.out _, SG.out _⟩
  have e : k = X.length := by omega
  subst e
  clear hk hlt HK
  go_wp2
  go_end0
  exact ⟨⟨_, rfl⟩, ⟨Y, hY, ho⟩, hg⟩

end Go.Proofs.YtlkbbbbclmffjaaGreatDoor
set_option linter.unusedSimpArgs false
set_option linter.unusedVariables false
namespace Go.Proofs.YtlkbbbbclmffjaaGreatDoor
open Go Go.RowKit Go.Shelf

attribute [local go_sem] Oper.semAt_some

/-- the marks behind a list that is lent -/
noncomputable def m64 : List Int := (List.range 64).map (mrk 0)
theorem m64_len : m64.length = 64 := by simp [m64]
theorem take_snoc {zs : List Int} {k : Nat} (hk : k < zs.length) : zs.take (k + 1) = zs.take k ++ [zs.getD k 0] := by
  rw [List.take_add_one, List.getD_eq_getElem?_getD]
  simp [hk]
theorem grow_one {B : Nat} {w wr w' : World} {u : Value} {n : Nat} {xs : List Value} {o : Obj} (bel : Below B w wr) (hB : B ≤ w.heap.size) (own : wr.ownsRow B 3 1 u n xs) (hg : (wr.alloc o).grownBy w' u.ownBlock) : Below B w w' :=
  (bel.alloc (Nat.le_trans hB bel.size) o).grown hg (Nat.le_trans hB (bel.alloc (Nat.le_trans hB bel.size) o).size) (fun b e => (World.ownsRow.lt own b e).1)
theorem row_slice1 {B K : Nat} {e : TypeId} {w : World} {x : Value} {xs : List Value} (h : w.ownsRow B e 1 x K xs) : ∃ a c, x = .slice a K c := by
  rcases h.2 with ⟨hv, hn⟩ | ⟨g, cap, cur, hv, _⟩
  · exact ⟨none, 0, by rw [hv, hn]⟩
  · exact ⟨_, _, hv⟩
theorem m64_take {k : Nat} (hk : k < 64) : (List.range (k + 1)).map (mrk 0) = (List.range k).map (mrk 0) ++ [mrk 0 k] := by
  rw [List.range_succ, List.map_append]; rfl

set_option maxRecDepth 100000 in
set_option maxHeartbeats 2000000 in
theorem lent_any (v : Value) (zs : List Int) (w : World) (hr : Rd w v zs) :
    Calls Tryz.prog 17 #[v] w fun e w' => ∃ v', e = .returned v' ∧ Own w.heap.size w' v' (zs ++ m64) ∧ Below w.heap.size w w' := by
  have hl := hr.len
  obtain ⟨i0, hi, hz0, hz1, hz2⟩ := info_parts Tryz.info3
  have HR : Hid (∀ W, Below w.heap.size w W → Rd W v zs) := fun W h => hr.below h
  obtain ⟨_, av, cv, rfl, -⟩ := id hr
  clear hr
  go_enter Tryz.func17, Tryz.ntmps17
  go_wp2
  go_loopg [3, 4] zs.length (fun g o i wr => ∃ (k : Nat) (ao : Option Addr) (co : Nat), k + g = zs.length ∧ o = .slice ao k co ∧ i = .int .i64 k ∧ wr.ownsRow w.heap.size 3 1 (.slice ao k co) k ((zs.take k).map (Value.int .i64)) ∧ Below w.heap.size w wr)
  case atStart => exact ⟨0, none, 0, by omega, rfl, rfl, World.ownsRow_nil _ _ _ _, Below.refl _ _⟩
  case round =>
  obtain ⟨k, ao, co, hk, rfl, rfl, own, bel⟩ := hrel
  have HK : Hid (k + gk = zs.length) := hk
  by_cases hlt : k < zs.length
  · obtain ⟨_, _, _, e, _, _, _, h2⟩ := HR.out wr bel
    cases e
    obtain ⟨b, off, e, hb, hcell⟩ := h2 (by intro h; rw [h] at hlt; simp at hlt)
    have hck := hcell k hlt
    subst e
    have HT : Hid (zs.take (k + 1) = zs.take k ++ [zs.getD k 0]) := take_snoc hlt
    have HOW : Hid (wr.ownsRow w.heap.size 3 1 (.slice ao k co) k ((zs.take k).map (Value.int .i64))) := own
    clear hcell h2 hk own
    generalize zs.getD k 0 = z at *
    obtain ⟨tk, htk⟩ : ∃ tk, (zs.take k).map (Value.int .i64) = tk := ⟨_, rfl⟩
    have HTK : Hid ((zs.take k).map (Value.int .i64) = tk) := htk
    rw [htk] at HOW
    clear htk
    have sw : w.heap.size ≤ wr.heap.size := bel.size
    go_wp2_with (at_builtin; refine wpList_append_own _ rfl _ _ 43 rfl w.heap.size 3 i0 (.int .i64 0) 1 8 Tryz.underlying43 hi hz0 hz1 hz2 rfl (by decide) _ k tk rfl (World.ownsRow.alloc HOW.out _) ⟨wr.heap.size, 0, none⟩ 1 1 [.int .i64 z] rfl rfl (cell_one_new _ _ _) (by simp [Value.oneCell']) (by unfold maxLen; omega) (by omega) (by simp; omega) ?_; intro x' w' own' gr2 hn')
    obtain ⟨ao', co', e'⟩ := row_slice1 own'
    subst e'
    have b' := grow_one bel (Nat.le_refl _) HOW.out gr2
    go_roundg (gk - 1)
    case measure => have := HK.out; omega
    case rel => exact ⟨k + 1, ao', co', by have := HK.out; omega, rfl, by go_num, by rw [HT.out, List.map_append, HTK.out]; exact own', b'⟩
  have e : k = zs.length := by omega
  subst e
  clear hk hlt HK
  rw [List.take_length] at own
  have OWN : Hid (wr.ownsRow w.heap.size 3 1 (.slice ao zs.length co) zs.length (zs.map (Value.int .i64))) := own
  have BEL : Hid (Below w.heap.size w wr) := bel
  clear own bel
  generalize wr = w2 at *
  go_wp2
  go_loopg [3, 5] 64 (fun g o i wr => ∃ (k : Nat) (ao : Option Addr) (co : Nat), k + g = 64 ∧ o = .slice ao (zs.length + k) co ∧ i = .int .i64 k ∧ wr.ownsRow w.heap.size 3 1 (.slice ao (zs.length + k) co) (zs.length + k) (zs.map (Value.int .i64) ++ ((List.range k).map (mrk 0)).map (Value.int .i64)) ∧ Below w.heap.size w wr)
  case atStart => exact ⟨0, ao, co, by omega, rfl, rfl, by simpa using OWN.out, BEL.out⟩
  case round =>
  clear OWN BEL
  obtain ⟨k, ao, co, hk, rfl, rfl, own, bel⟩ := hrel
  have HK : Hid (k + gk = 64) := hk
  by_cases hlt : k < 64
  · have HM : Hid (∀ W, Calls Tryz.prog 18 #[.int .i64 0, .int .i64 k] W fun e w' => e = .returned (.int .i64 (mrk 0 k)) ∧ w' = W) := fun W => mark_any 0 k W (by omega) (by omega)
    have HT : Hid ((List.range (k + 1)).map (mrk 0) = (List.range k).map (mrk 0) ++ [mrk 0 k]) := m64_take hlt
    have HOW : Hid (wr.ownsRow w.heap.size 3 1 (.slice ao (zs.length + k) co) (zs.length + k) (zs.map (Value.int .i64) ++ ((List.range k).map (mrk 0)).map (Value.int .i64))) := own
    clear hk own
    generalize mrk 0 k = z at *
    obtain ⟨tk, htk⟩ : ∃ tk, zs.map (Value.int .i64) ++ ((List.range k).map (mrk 0)).map (Value.int .i64) = tk := ⟨_, rfl⟩
    have HTK : Hid (zs.map (Value.int .i64) ++ ((List.range k).map (mrk 0)).map (Value.int .i64) = tk) := htk
    rw [htk] at HOW
    clear htk
    have sw : w.heap.size ≤ wr.heap.size := bel.size
    go_wp2_with fail
    refine (HM.out _).mono ?_
    rintro e wv ⟨rfl, hwv⟩
    rw [hwv]
    clear hwv wv
    go_wp2_with (at_builtin; refine wpList_append_own _ rfl _ _ 43 rfl w.heap.size 3 i0 (.int .i64 0) 1 8 Tryz.underlying43 hi hz0 hz1 hz2 rfl (by decide) _ (zs.length + k) tk rfl (World.ownsRow.alloc HOW.out _) ⟨wr.heap.size, 0, none⟩ 1 1 [.int .i64 z] rfl rfl (cell_one_new _ _ _) (by simp [Value.oneCell']) (by unfold maxLen; omega) (by omega) (by simp; omega) ?_; intro x' w' own' gr2 hn')
    obtain ⟨ao', co', e'⟩ := row_slice1 own'
    subst e'
    have b' := grow_one bel (Nat.le_refl _) HOW.out gr2
    go_roundg (gk - 1)
    case measure => have := HK.out; omega
    case rel => exact ⟨k + 1, ao', co', by have := HK.out; omega, rfl, by go_num, by rw [HT.out, List.map_append, ← List.append_assoc, HTK.out]; exact own', b'⟩
  have e : k = 64 := by omega
  subst e
  clear hk hlt HK
  have OWN : Hid (Own w.heap.size wr (.slice ao (zs.length + 64) co) (zs ++ m64)) := by
    show Own _ _ _ _
    unfold Own
    rw [List.length_append, m64_len, List.map_append]
    exact own
  clear own
  go_wp2
  go_ret
  exact ⟨_, rfl, OWN.out, bel⟩

theorem own_at {B : Nat} {w : World} {x : Value} {T : List Int} (h : Own B w x T) {i : Nat} (hi : i < T.length) : ∃ g cap, x = .slice (some ⟨g, 0, none⟩) T.length cap ∧ T.length ≤ cap ∧ w.cell? ⟨g, i, none⟩ = some (.int .i64 (T.getD i 0)) := by
  obtain ⟨g, cap, e, hH, hg, hbase, hncap, hmm⟩ := trown_holds h (by intro h; rw [h] at hi; simp at hi)
  refine ⟨g, cap, e, hncap, ?_⟩
  have := (hH i (by simpa using hi)).1
  simpa [List.getD_eq_getElem?_getD, getElem!_def, Array.getElem?_eq_getElem, hi] using this
theorem cell_app_left {B : Nat} {w : World} {x : Value} {zs ms : List Int} (h : Own B w x (zs ++ ms)) {i : Nat} (hi : i < zs.length) : ∃ g cap, x = .slice (some ⟨g, 0, none⟩) (zs.length + ms.length) cap ∧ zs.length + ms.length ≤ cap ∧ w.cell? ⟨g, i, none⟩ = some (.int .i64 (zs.getD i 0)) := by
  have hl : i < (zs ++ ms).length := by rw [List.length_append]; omega
  have e2 : (zs ++ ms).getD i 0 = zs.getD i 0 := by rw [List.getD_eq_getElem?_getD, List.getD_eq_getElem?_getD, List.getElem?_append_left hi]
  have := own_at h hl
  rwa [e2, List.length_append] at this
theorem cell_app_right {B : Nat} {w : World} {x : Value} {zs ms : List Int} (h : Own B w x (zs ++ ms)) {i : Nat} (hi : i < ms.length) : ∃ g cap, x = .slice (some ⟨g, 0, none⟩) (zs.length + ms.length) cap ∧ zs.length + ms.length ≤ cap ∧ w.cell? ⟨g, zs.length + i, none⟩ = some (.int .i64 (ms.getD i 0)) := by
  have hl : zs.length + i < (zs ++ ms).length := by rw [List.length_append]; omega
  have e2 : (zs ++ ms).getD (zs.length + i) 0 = ms.getD i 0 := by rw [List.getD_eq_getElem?_getD, List.getD_eq_getElem?_getD, List.getElem?_append_right (by omega), Nat.add_sub_cancel_left]
  have := own_at h hl
  rwa [e2, List.length_append] at this
theorem grown_setCell (w : World) (a : Addr) (u : Value) : w.grownBy (w.setCell a u) (some a.block) :=
  ⟨rfl, rfl, rfl, by simp, fun k _ hk => heap_setCell_other w a k u (fun e => hk (by simp [e]))⟩
theorem m64_at {i : Nat} (hi : i < 64) : m64.getD i 0 = mrk 0 i := by
  unfold m64
  rw [List.getD_eq_getElem?_getD, List.getElem?_map, List.getElem?_range hi]
  rfl

set_option maxRecDepth 100000 in
set_option maxHeartbeats 2000000 in
theorem kept_any (B : Nat) (x v : Value) (zs : List Int) (w : World) (ho : Own B w x (zs ++ m64)) (hr : Rd w v zs) :
    Calls Tryz.prog 23 #[x, v] w fun e w' => e = .returned (.bool true) ∧ Below w.heap.size w w' := by
  have hl := hr.len
  have HR : Hid (∀ W, Below w.heap.size w W → Rd W v zs) := fun W h => hr.below h
  have HO : Hid (∀ W, Below w.heap.size w W → Own B W x (zs ++ m64)) := fun W h => ho.below h
  obtain ⟨_, av, cv, rfl, -⟩ := id hr
  obtain ⟨ax, cx, e⟩ := row_slice1 ho
  rw [List.length_append, m64_len] at e
  subst e
  clear hr ho
  go_enter Tryz.func23, Tryz.ntmps23
  go_wp2
  go_loopg [5] zs.length (fun g i wr => ∃ k : Nat, k + g = zs.length ∧ i = .int .i64 k ∧ Below w.heap.size w wr)
  case atStart => exact ⟨0, by omega, rfl, Below.refl _ _⟩
  case round =>
  obtain ⟨k, hk, rfl, bel⟩ := hrel
  have HK : Hid (k + gk = zs.length) := hk
  by_cases hlt : k < zs.length
  · obtain ⟨_, _, _, e, _, _, _, h2⟩ := HR.out wr bel
    cases e
    obtain ⟨b, off, e, hb, hcell⟩ := h2 (by intro h; rw [h] at hlt; simp at hlt)
    have hck := hcell k hlt
    subst e
    obtain ⟨g, cap, e, hcap, hcg⟩ := cell_app_left (HO.out wr bel) hlt
    rw [m64_len] at e hcap
    cases e
    have BE : Hid (Below w.heap.size w wr) := bel
    clear hcell h2 hk bel
    generalize zs.getD k 0 = z at *
    go_wp2
    go_quiet (fail)
    go_wp2
    go_roundg (gk - 1)
    case measure => have := HK.out; omega
    case rel => exact ⟨k + 1, by have := HK.out; omega, by go_num, BE.out.trans ((below_drewN _ _).mono BE.out.size)⟩
  have e : k = zs.length := by omega
  subst e
  clear hk hlt HK
  have BEL : Hid (Below w.heap.size w wr) := bel
  clear bel
  generalize wr = w2 at *
  go_wp2
  go_loopg [6] 64 (fun g i wr => ∃ k : Nat, k + g = 64 ∧ i = .int .i64 k ∧ Below w.heap.size w wr)
  case atStart => exact ⟨0, by omega, rfl, BEL.out⟩
  case round =>
  obtain ⟨k, hk, rfl, bel⟩ := hrel
  have HK : Hid (k + gk = 64) := hk
  by_cases hlt : k < 64
  · obtain ⟨g, cap, e, hcap, hcg⟩ := cell_app_right (HO.out wr bel) (i := k) (by rw [m64_len]; exact hlt)
    rw [m64_len] at e hcap
    cases e
    rw [m64_at hlt] at hcg
    have HM : Hid (∀ W, Calls Tryz.prog 18 #[.int .i64 0, .int .i64 k] W fun e w' => e = .returned (.int .i64 (mrk 0 k)) ∧ w' = W) := fun W => mark_any 0 k W (by omega) (by omega)
    have BE : Hid (Below w.heap.size w wr) := bel
    clear hk bel
    generalize mrk 0 k = z at *
    go_wp2
    go_quiet ((go_at_call 18; exact Calls.quiet_of_same (HM.out _)))
    go_wp2
    go_roundg (gk - 1)
    case measure => have := HK.out; omega
    case rel => exact ⟨k + 1, by have := HK.out; omega, by go_num, BE.out.trans ((below_drewN _ _).mono BE.out.size)⟩
  have e : k = 64 := by omega
  subst e
  clear hk hlt HK
  go_wp2
  go_ret
  exact ⟨rfl, bel⟩

set_option maxRecDepth 100000 in
set_option maxHeartbeats 2000000 in
theorem over_any (B : Nat) (x : Value) (X : List Int) (w : World) (ho : Own B w x X) (hl : X.length ≤ 35184372088832) :
    Calls Tryz.prog 25 #[x] w fun e w' => (∃ v, e = .returned v) ∧ (∃ Z, Z.length = X.length ∧ Own B w' x Z) ∧ w.grownBy w' x.ownBlock := by
  obtain ⟨ax, cx, e⟩ := row_slice1 ho
  subst e
  have HO : Hid (Own B w (.slice ax X.length cx) X) := ho
  clear ho
  go_enter Tryz.func25, Tryz.ntmps25
  go_wp2
  go_loopg [2] X.length (fun g i wr => ∃ (k : Nat) (Y : List Int), k + g = X.length ∧ i = .int .i64 k ∧ Y.length = X.length ∧ Own B wr (.slice ax X.length cx) Y ∧ w.grownBy wr (Value.slice ax X.length cx).ownBlock)
  case atStart => exact ⟨0, X, by omega, rfl, rfl, HO.out, ⟨rfl, rfl, rfl, Nat.le_refl _, fun _ _ _ => rfl⟩⟩
  case round =>
  obtain ⟨k, Y, hk, rfl, hY, ho, hg⟩ := hrel
  have HK : Hid (k + gk = X.length) := hk
  by_cases hlt : k < X.length
  · obtain ⟨g, cap, y, e, hbg, hcap, hc1, hc2⟩ := Pm.place (k := 0) (c := 0) ⟨Y, ho, hY, fun t ht => by omega⟩ hlt
    simp only [Value.slice.injEq, true_and] at e
    obtain ⟨rfl, rfl⟩ := e
    have SX : Hid (∀ z, Own B (wr.setCell ⟨g, k, none⟩ (.int .i64 z)) (.slice (some ⟨g, 0, none⟩) X.length cx) (Y.set k z)) := fun z => own_store ho hY
    have SG : Hid (∀ z, w.grownBy (wr.setCell ⟨g, k, none⟩ z) (some g)) := fun z => hg.trans (grown_setCell wr ⟨g, k, none⟩ z)
    clear hk ho hg
    go_wp2
    go_roundg (gk - 1)
    case measure => have := HK.out; omega
    case rel => exact ⟨k + 1, _, by have := HK.out; omega, by go_num, by rw [List.length_set]; exact hY, SX.out _, SG.out _⟩
  have e : k = X.length := by omega
  subst e
  clear hk hlt HK
  go_wp2
  go_end0
  exact ⟨⟨_, rfl⟩, ⟨Y, hY, ho⟩, hg⟩

end Go.Proofs.YtlkbbbbclmffjaaGreatDoor
set_option linter.unusedSimpArgs false
set_option linter.unusedVariables false
namespace Go.Proofs.YtlkbbbbclmffjaaGreatDoor
open Go Go.RowKit

def Bx3 (W : World) (D : Nat) (t : TypeId) (x y z : Value) : Prop := W.heap[D]? = some (.cells #[x, y, z] t (0, 0))
section
variable {W W' : World} {D : Nat} {t : TypeId} {x y z : Value}
theorem Bx3.lt (h : Bx3 W D t x y z) : D < W.heap.size := (Array.getElem?_eq_some_iff.1 h).1
theorem Bx3.c0 (h : Bx3 W D t x y z) : W.cell? ⟨D, 0, none⟩ = some x := by simp [World.cell?, show W.heap[D]? = _ from h]
theorem Bx3.c1 (h : Bx3 W D t x y z) : W.cell? ⟨D, 1, none⟩ = some y := by simp [World.cell?, show W.heap[D]? = _ from h]
theorem Bx3.c2 (h : Bx3 W D t x y z) : W.cell? ⟨D, 2, none⟩ = some z := by simp [World.cell?, show W.heap[D]? = _ from h]
theorem Bx3.fz (h : Bx3 W D t x y z) (o : Nat) : W.frozen? ⟨D, o, none⟩ = false := by simp [World.frozen?, show W.heap[D]? = _ from h]
theorem Bx3.kept {row : Option Nat} (h : Bx3 W D t x y z) (hg : W.grownBy W' row) (hne : some D ≠ row) : Bx3 W' D t x y z := (hg.block D h.lt hne).trans h
theorem Bx3.below (h : Bx3 W D t x y z) (hb : Below W.heap.size W W') : Bx3 W' D t x y z := (hb.block D h.lt).trans h
theorem Bx3.set0 (h : Bx3 W D t x y z) (v : Value) : Bx3 (W.setCell ⟨D, 0, none⟩ v) D t v y z := set_heap h 0 v
theorem Bx3.set1 (h : Bx3 W D t x y z) (v : Value) : Bx3 (W.setCell ⟨D, 1, none⟩ v) D t x v z := set_heap h 1 v
theorem Bx3.set2 (h : Bx3 W D t x y z) (v : Value) : Bx3 (W.setCell ⟨D, 2, none⟩ v) D t x y v := set_heap h 2 v
theorem Bx3.not_row {e : TypeId} (h : Bx3 W D t x y z) (hte : t ≠ e) {base size k : Nat} {v : Value} {xs : List Value} (hr : W.ownsRow base e size v k xs) : some D ≠ v.ownBlock := by
  rcases hr.2 with ⟨rfl, _⟩ | ⟨g, cap, cur, rfl, _, hg, _⟩
  · simp [Value.ownBlock]
  · intro e1
    have : D = g := by simpa [Value.ownBlock] using e1
    subst this
    rw [show W.heap[D]? = _ from h] at hg
    injection hg with hg; injection hg with _ h2; exact hte h2
end
def cutV (c : Cls) : Value := match c.1 with
  | .slice a n k => .slice a (n - 64) k
  | v => v
/-- rows that are lent -/
structure Lr (B : Nat) (W : World) (vw vr : Value) (L : List Cls) (ws : List Value) (M : List Cls) : Prop where
  r : OwnR B W vr L
  w : W.ownsRow B 43 1 vw ws.length ws
  m : ∀ x ∈ M, Own B W x.1 x.2
  ne : ∀ g, vw.ownBlock = some g → vr.ownBlock ≠ some g
section
variable {B : Nat} {W Wa W' w1 : World} {vw vr vr' vw' : Value} {L : List Cls} {ws : List Value} {M : List Cls}
theorem Lr.nil (B : Nat) (W : World) : Lr B W (.slice none 0 0) (.slice none 0 0) [] [] [] := ⟨OwnR.nil _ _, World.ownsRow_nil _ _ _ _, fun x hx => (by cases hx), fun g e => by simp [Value.ownBlock] at e⟩
theorem Lr.below (h : Lr B W vw vr L ws M) (hb : Below W.heap.size W W') : Lr B W' vw vr L ws M :=
  ⟨h.r.below hb, row_kept h.w fun k e => hb.block k (h.w.lt k e.symm).2, fun x hx => (h.m x hx).below hb, h.ne⟩
theorem Lr.box {D : Nat} {t : TypeId} {x y z : Value} (h : Lr B W vw vr L ws M) (hb : Bx3 W D t x y z) (h1 : t ≠ 43) (h2 : t ≠ 3) (j : Nat) (v : Value) : Lr B (W.setCell ⟨D, j, none⟩ v) vw vr L ws M := by
  have hg := grown_set W ⟨D, j, none⟩ v
  have go : ∀ {e s n : Nat} {u : Value} {xs : List Value}, t ≠ e → W.ownsRow B e s u n xs → (W.setCell ⟨D, j, none⟩ v).ownsRow B e s u n xs := fun hne hr => row_kept hr fun k e1 => hg.block k (hr.lt k e1.symm).2 (fun e2 => hb.not_row hne hr (by rw [← e1, e2]))
  exact ⟨⟨go h1 h.r.row, fun x hx => go h2 (h.r.own x hx), h.r.ap⟩, go h1 h.w, fun x hx => go h2 (h.m x hx), h.ne⟩
theorem own_rows {e : TypeId} {u v : Value} {n n' : Nat} {xs ys : List Value} (hne : e ≠ 43) (h : W.ownsRow B e 1 u n xs) (hv : W.ownsRow B 43 1 v n' ys) (hg : W.grownBy W' v.ownBlock) : W'.ownsRow B e 1 u n xs := row_apart hne h hv hg
theorem Lr.appR {u : Value} {z : List Int} (h : Lr B W vw vr L ws M) (hga : W.grownBy Wa none) (own' : w1.ownsRow B 43 1 vr' (L.length + 1) (L.map Prod.fst ++ [u])) (ha : Ap Wa vr w1 vr') (hu : Own B W u z) (hap : ApartC (L ++ [(u, z)])) : Lr B w1 vw vr' (L ++ [(u, z)]) ws M := by
  have hra : Wa.ownsRow B 43 1 vr L.length (L.map Prod.fst) := World.ownsRow.kept h.r.row hga (one_or _)
  refine ⟨h.r.app hga own' ha.grown hu hap, ?_, fun x hx => ?_, fun g e1 e2 => ?_⟩
  · refine World.ownsRow.kept (World.ownsRow.kept h.w hga (one_or _)) ha.grown ?_
    cases hv : vw.ownBlock with
    | none => exact .inl rfl
    | some g => exact .inr (fun e => h.ne g hv e.symm)
  · exact own_rows (by decide) (World.ownsRow.kept (h.m x hx) hga (one_or _)) hra ha.grown
  · have hl := (h.w.lt g e1).2
    rcases ha.new with e | e
    · rw [e] at e2; exact h.ne g e1 e2
    · have := e g e2
      have := hga.size
      omega
theorem Lr.appW {x : Value} (h : Lr B W vw vr L ws M) (hga : W.grownBy Wa none) (own' : w1.ownsRow B 43 1 vw' (ws.length + 1) (ws ++ [x])) (ha : Ap Wa vw w1 vw') : Lr B w1 vw' vr L (ws ++ [x]) M := by
  have hwa : Wa.ownsRow B 43 1 vw ws.length ws := World.ownsRow.kept h.w hga (one_or _)
  refine ⟨⟨?_, fun y hy => ?_, h.r.ap⟩, by simpa using own', fun y hy => ?_, fun g e1 e2 => ?_⟩
  · refine World.ownsRow.kept (World.ownsRow.kept h.r.row hga (one_or _)) ha.grown ?_
    cases hv : vr.ownBlock with
    | none => exact .inl rfl
    | some g => exact .inr (fun e => h.ne g e.symm hv)
  · exact own_rows (by decide) (World.ownsRow.kept (h.r.own y hy) hga (one_or _)) hwa ha.grown
  · exact own_rows (by decide) (World.ownsRow.kept (h.m y hy) hga (one_or _)) hwa ha.grown
  · have hl := (h.r.row.lt g e2).2
    rcases ha.new with e | e
    · rw [e] at e1; exact h.ne g e1 e2
    · have := e g e1
      have := hga.size
      omega
theorem Lr.addM {u : Value} {z : List Int} (h : Lr B W vw vr L ws M) (hu : Own B W u z) : Lr B W vw vr L ws (M ++ [(u, z)]) := ⟨h.r, h.w, fun x hx => (List.mem_append.1 hx).elim (h.m x) (fun e => by rw [List.mem_singleton.1 e]; exact hu), h.ne⟩
end
theorem below_of_ap {B : Nat} {w W w1 : World} {o : Obj} {v v' : Value} {e s n : Nat} {xs : List Value} (h : Below B w W) (hB : B ≤ W.heap.size) (ho : W.ownsRow B e s v n xs) (ha : Ap (W.alloc o) v w1 v') : Below B w w1 :=
  (h.alloc hB o).grown ha.grown (Nat.le_trans hB (below_box W o).size) (fun q e => (ho.lt q e).1)
theorem infoLr : (Tryz.prog.info? 43).map (fun i => (i.zero, i.size, i.bytes)) = some (some (.slice none 0 0), 1, 24) := by kernel_rfl
theorem one_newR (w : World) (x : Value) (t : TypeId) : ∀ j y, [x][j]? = some y → (w.alloc (.cells #[x] t)).cell? ((⟨w.heap.size, 0, none⟩ : Addr).add j) = some y := fun j y hy => by
  rw [Addr.add_lit]
  have hh := World.alloc_heap_new w (.cells #[x] t)
  show (match (w.alloc (.cells #[x] t)).heap[w.heap.size]? with | some (Obj.cells c elem frozen) => c[0 + j]? | x => none) = _
  rw [hh]
  simpa using hy
/-- as far as LentRows has come -/
structure Ls1 (w W : World) (vw vr : Value) (L : List Cls) (ws : List Value) (M : List Cls) : Prop where
  x : Bx3 W (w.heap.size + 1) 29 (.slice none 0 0) vw vr
  y : Bx3 W w.heap.size 29 (.slice none 0 0) (.slice none 0 0) (.slice none 0 0)
  l : Lr w.heap.size W vw vr L ws M
  b : Below w.heap.size w W
section
variable {w W W' w1 : World} {vw vr : Value} {L : List Cls} {ws : List Value} {M : List Cls}
theorem Ls1.below (h : Ls1 w W vw vr L ws M) (hb : Below W.heap.size W W') : Ls1 w W' vw vr L ws M := ⟨h.x.below hb, h.y.below hb, h.l.below hb, Below.step h.b hb⟩
theorem Ls1.appR {u vr' : Value} {z : List Int} {o : Obj} (h : Ls1 w W vw vr L ws M) (own' : w1.ownsRow w.heap.size 43 1 vr' (L.length + 1) (L.map Prod.fst ++ [u])) (ha : Ap (W.alloc o) vr w1 vr') (hu : Own w.heap.size W u z) (hap : ApartC (L ++ [(u, z)])) :
    w1.cell? ⟨w.heap.size + 1, 2, none⟩ = some vr ∧ w1.frozen? ⟨w.heap.size + 1, 2, none⟩ = false ∧ Ls1 w (w1.setCell ⟨w.heap.size + 1, 2, none⟩ vr') vw vr' (L ++ [(u, z)]) ws M := by
  have hra : (W.alloc o).ownsRow w.heap.size 43 1 vr L.length (L.map Prod.fst) := World.ownsRow.alloc h.l.r.row o
  have hx0 := h.x.below (below_box W o)
  have hy0 := h.y.below (below_box W o)
  have hx1 := hx0.kept ha.grown (hx0.not_row (by decide) hra)
  have hy1 := hy0.kept ha.grown (hy0.not_row (by decide) hra)
  have hl1 := h.l.appR (World.grownBy_alloc W o none) own' ha hu hap
  refine ⟨hx1.c2, hx1.fz 2, ⟨hx1.set2 vr', hy1.kept (grown_set _ _ _) (by simp), hl1.box hx1 (by decide) (by decide) 2 vr', ?_⟩⟩
  exact (below_of_ap h.b h.b.size h.l.r.row ha).setCell (p := ⟨w.heap.size + 1, 2, none⟩) (Nat.le_succ _) _
theorem Ls1.appW {x vw' : Value} {o : Obj} (h : Ls1 w W vw vr L ws M) (own' : w1.ownsRow w.heap.size 43 1 vw' (ws.length + 1) (ws ++ [x])) (ha : Ap (W.alloc o) vw w1 vw') :
    w1.cell? ⟨w.heap.size + 1, 1, none⟩ = some vw ∧ w1.frozen? ⟨w.heap.size + 1, 1, none⟩ = false ∧ Ls1 w (w1.setCell ⟨w.heap.size + 1, 1, none⟩ vw') vw' vr L (ws ++ [x]) M := by
  have hra : (W.alloc o).ownsRow w.heap.size 43 1 vw ws.length ws := World.ownsRow.alloc h.l.w o
  have hx0 := h.x.below (below_box W o)
  have hy0 := h.y.below (below_box W o)
  have hx1 := hx0.kept ha.grown (hx0.not_row (by decide) hra)
  have hy1 := hy0.kept ha.grown (hy0.not_row (by decide) hra)
  have hl1 := h.l.appW (World.grownBy_alloc W o none) own' ha
  refine ⟨hx1.c1, hx1.fz 1, ⟨hx1.set1 vw', hy1.kept (grown_set _ _ _) (by simp), hl1.box hx1 (by decide) (by decide) 1 vw', ?_⟩⟩
  exact (below_of_ap h.b h.b.size h.l.w ha).setCell (p := ⟨w.heap.size + 1, 1, none⟩) (Nat.le_succ _) _
end
end Go.Proofs.YtlkbbbbclmffjaaGreatDoor
set_option linter.unusedSimpArgs false
set_option linter.unusedVariables false
namespace Go.Proofs.YtlkbbbbclmffjaaGreatDoor
open Go Go.RowKit

theorem m64_app_len (z : List Int) : (z ++ m64).length = z.length + 64 := by rw [List.length_append, m64_len]
theorem getD_inR {css : List (List Int)} {k : Nat} (h : k < css.length) : css.getD k [] ∈ css := by
  rw [List.getD_eq_getElem?_getD, List.getElem?_eq_getElem h]; exact List.getElem_mem h
/-- the marks behind rows that are lent -/
noncomputable def mks (j : Nat) : List (List Int) := (List.range j).map fun i => [mrk 1 i]
/-- what LentRows answers -/
structure Lq (w W : World) (vi vw vr : Value) (css : List (List Int)) (L M : List Cls) : Prop where
  l : Lr w.heap.size W vw vr L (L.map cutV ++ M.map Prod.fst) M
  ls : L.map Prod.snd = css.map (· ++ m64)
  ms : M.map Prod.snd = mks 64
  b : Below w.heap.size w W
  i : ∃ a c, vw = .slice a (css.length + 64) c ∧ vi = .slice a css.length c
set_option maxRecDepth 100000 in
set_option maxHeartbeats 6400000 in
theorem lentRows_any (v : Value) (css : List (List Int)) (w : World) (hr : Rds w v css) (hb : css.length ≤ 1073741824) :
    Calls Tryz.prog 4 #[v] w fun e w' => ∃ vi vw vr L M, e = .returned (.agg #[vi, vw, vr]) ∧ Lq w w' vi vw vr css L M := by
  have HR : Hid (Rds w v css ∧ css.length ≤ 1073741824 ∧ ∀ z ∈ css, z.length * 8 ≤ 140737488351232) := ⟨hr, hb, rds_each hr⟩
  obtain ⟨a, c, rfl, h1, h2, hAT⟩ := hr.form
  have HAT : Hid (∀ (k : Nat), k < css.length → ∃ bb off u cu, a = some ⟨bb, off, none⟩ ∧ ∀ W, Below w.heap.size w W → W.cell? ⟨bb, off + k, none⟩ = some (.slice u (css.getD k []).length cu) ∧ Rd W (.slice u (css.getD k []).length cu) (css.getD k [])) := fun k hk => by
    obtain ⟨bb, off, u, e, kc, hrd⟩ := hAT k hk
    obtain ⟨au, cu, eu, -, -, -⟩ := hrd.form
    subst eu
    exact ⟨bb, off, au, cu, e, fun W hW => ⟨(hW.cell (p := ⟨bb, off + k, none⟩) (World.block_lt_of_cell? w _ kc)).trans kc, hrd.below hW⟩⟩
  obtain ⟨il, hil, hzl0, hzl1, hzl2⟩ := info_parts infoLr
  have HIl : Hid (Tryz.prog.info? 43 = some il ∧ il.zero = some (.slice none 0 0) ∧ il.size = 1 ∧ il.bytes = 24) := ⟨hil, hzl0, hzl1, hzl2⟩
  have H0 : Hid (Ls1 w ((w.alloc (.cells #[.slice none 0 0, .slice none 0 0, .slice none 0 0] 29)).alloc (.cells #[.slice none 0 0, .slice none 0 0, .slice none 0 0] 29)) (.slice none 0 0) (.slice none 0 0) [] [] []) := by
    refine ⟨?_, ?_, Lr.nil _ _, Below.step (below_box _ _) (below_box _ _)⟩
    · have := World.alloc_heap_new (w.alloc (.cells #[.slice none 0 0, .slice none 0 0, .slice none 0 0] 29)) (.cells #[.slice none 0 0, .slice none 0 0, .slice none 0 0] 29)
      rw [World.size_alloc] at this
      exact this
    · exact Bx3.below (World.alloc_heap_new w _) (below_box _ _)
  clear hr hAT hil hzl0 hzl1 hzl2
  go_enter Tryz.func4, Tryz.ntmps4
  go_wp2
  generalize (w.alloc (.cells #[.slice none 0 0, .slice none 0 0, .slice none 0 0] 29)).alloc (.cells #[.slice none 0 0, .slice none 0 0, .slice none 0 0] 29) = W0 at *
  go_loopg [4, 5] css.length (fun q i' r' wr => ∃ (k : Nat) (vw vr : Value) (L : List Cls), k + q = css.length ∧ i' = .int .i64 k ∧ Ls1 w wr vw vr L (L.map cutV) [] ∧ L.map Prod.snd = (css.take k).map (· ++ m64))
  case atStart => exact ⟨0, _, _, [], by omega, rfl, H0.out, by simp⟩
  case round =>
    obtain ⟨k, vw, vr, L, hk, rfl, hls, hL⟩ := hrel
    have HK : Hid (k + gk = css.length) := hk
    have HL : Hid (Ls1 w wr vw vr L (L.map cutV) [] ∧ L.map Prod.snd = (css.take k).map (· ++ m64)) := ⟨hls, hL⟩
    have HLl : Hid (L.length = k) := by
      have h5 := congrArg List.length hL
      simp only [List.length_map, List.length_take] at h5
      show L.length = k
      omega
    clear hls hL hk
    by_cases hlt : k < css.length
    · obtain ⟨bb, off, au, cu, rfl, hcr⟩ := HAT.out k hlt
      obtain ⟨kc, hrd⟩ := hcr wr HL.out.1.b
      have HTk : Hid ((css.take (k + 1)).map (· ++ m64) = (css.take k).map (· ++ m64) ++ [css.getD k [] ++ m64]) := by
        show _ = _
        rw [List.take_succ_eq_append_getElem hlt, List.map_append]
        simp [List.getD_eq_getElem?_getD, List.getElem?_eq_getElem hlt]
      have HZl : Hid ((css.getD k []).length * 8 ≤ 140737488351232) := HR.out.2.2 _ (getD_inR hlt)
      have HLT : Hid (k < css.length) := hlt
      have HLent : Hid (Calls Tryz.prog 17 #[.slice au (css.getD k []).length cu] wr fun e w' => ∃ v', e = .returned v' ∧ Own wr.heap.size w' v' (css.getD k [] ++ m64) ∧ Below wr.heap.size wr w') := lent_any _ _ wr hrd
      have HKc : Hid (∀ W, Below w.heap.size w W → W.cell? ⟨bb, off + k, none⟩ = some (.slice au (css.getD k []).length cu)) := fun W hW => (hcr W hW).1
      clear hcr
      clear hrd
      generalize css.getD k [] = z at *
      have hzl := HZl.out
      go_wp2_with fail
      refine Calls.mono HLent.out ?_
      rintro e w1 ⟨v1, rfl, own1, bel1⟩
      have HSm := row_some own1 (by rw [m64_app_len]; omega)
      obtain ⟨a1, c1, e1⟩ := own_form own1
      rw [m64_app_len] at e1
      have hc1 : z.length + 64 ≤ c1 := by
        obtain ⟨g', c', e', h5, -, -⟩ := HSm
        rw [e1] at e'
        injection e' with _ _ e3
        rw [m64_app_len] at h5
        omega
      clear HSm
      have hzc : z.length ≤ c1 := by omega
      subst e1
      have H1 : Hid (Ls1 w w1 vw vr L (L.map cutV) [] ∧ Own w.heap.size w1 (.slice a1 (z.length + 64) c1) (z ++ m64) ∧ ApartC (L ++ [(.slice a1 (z.length + 64) c1, z ++ m64)])) := ⟨HL.out.1.below bel1, own1.mono HL.out.1.b.size, ApartC.snoc HL.out.1.l.r.ap HL.out.1.l.r.own own1 (Nat.le_refl _)⟩
      have x2 := H1.out.1.x.c2
      obtain ⟨ar, cr, er⟩ := row_form H1.out.1.l.r.row
      subst er
      have HRa : Hid ((w1.alloc (.cells #[.slice a1 (z.length + 64) c1] 43)).ownsRow w.heap.size 43 1 (.slice ar L.length cr) L.length (L.map Prod.fst)) := World.ownsRow.alloc H1.out.1.l.r.row _
      have HNa : Hid (∀ j y, [Value.slice a1 (z.length + 64) c1][j]? = some y → (w1.alloc (.cells #[.slice a1 (z.length + 64) c1] 43)).cell? ((⟨w1.heap.size, 0, none⟩ : Addr).add j) = some y) := one_newR w1 _ _
      have HSa : Hid (w.heap.size ≤ (w1.alloc (.cells #[.slice a1 (z.length + 64) c1] 43)).heap.size) := Nat.le_trans H1.out.1.b.size (below_box _ _).size
      have hl63 : L.length + 1 ≤ maxLen := by have := HLl.out; have := HLT.out; have := HR.out.2.1; unfold maxLen; omega
      have hl48 : (L.length + 1) * 24 ≤ 140737488355328 := by have := HLl.out; have := HLT.out; have := HR.out.2.1; omega
      have HAr : Hid (∀ v5 w5, w5.ownsRow w.heap.size 43 1 v5 (L.length + 1) (L.map Prod.fst ++ [.slice a1 (z.length + 64) c1]) → Ap (w1.alloc (.cells #[.slice a1 (z.length + 64) c1] 43)) (.slice ar L.length cr) w5 v5 → w5.cell? ⟨w.heap.size + 1, 2, none⟩ = some (.slice ar L.length cr) ∧ w5.frozen? ⟨w.heap.size + 1, 2, none⟩ = false ∧ Ls1 w (w5.setCell ⟨w.heap.size + 1, 2, none⟩ v5) vw v5 (L ++ [(.slice a1 (z.length + 64) c1, z ++ m64)]) (L.map cutV) []) := fun v5 w5 ho ha => H1.out.1.appR ho ha H1.out.2.1 H1.out.2.2
      clear own1 bel1 kc
      go_upto_region 7 with (at_builtin; refine wpList_append_apk rfl _ _ 22 rfl w.heap.size 43 il (.slice none 0 0) 1 24 Tryz.underlying22 HIl.out.1 HIl.out.2.1 HIl.out.2.2.1 HIl.out.2.2.2 rfl (by decide) (.slice ar L.length cr) L.length (L.map Prod.fst) rfl HRa.out ⟨w1.heap.size, 0, none⟩ 1 1 [.slice a1 (z.length + 64) c1] rfl rfl HNa.out (by simp [Value.oneCell']) hl63 hl48 HSa.out ?_; intro v5 w5 own5 ap5; obtain ⟨a5, c5, hv5⟩ := row_form' own5; subst hv5; have K5 := HAr.out _ w5 own5 ap5; have q1 := K5.1; have q2 := K5.2.1; have F5 : Hid (Ls1 w (w5.setCell ⟨w.heap.size + 1, 2, none⟩ (.slice a5 (L.length + 1) c5)) vw (.slice a5 (L.length + 1) c5) (L ++ [(.slice a1 (z.length + 64) c1, z ++ m64)]) (L.map cutV) []) := K5.2.2; clear K5 own5 ap5)
      generalize w5.setCell ⟨w.heap.size + 1, 2, none⟩ (.slice a5 (L.length + 1) c5) = w6 at *
      have y1 := F5.out.x.c1
      have HWl : Hid ((L.map cutV).length = L.length) := List.length_map _
      obtain ⟨aw, cw, ew⟩ := row_form' F5.out.l.w
      rw [HWl.out] at ew
      subst ew
      have kc := HKc.out w6 F5.out.b
      have HRw : Hid ((w6.drew.alloc (.cells #[.slice a1 z.length c1] 43)).ownsRow w.heap.size 43 1 (.slice aw L.length cw) L.length (L.map cutV)) := by
        have h5 := F5.out.l.w
        rw [HWl.out] at h5
        exact World.ownsRow.alloc (row_kept h5 fun _ _ => rfl) _
      have HNw : Hid (∀ j y, [Value.slice a1 z.length c1][j]? = some y → (w6.drew.alloc (.cells #[.slice a1 z.length c1] 43)).cell? ((⟨w6.drew.heap.size, 0, none⟩ : Addr).add j) = some y) := one_newR w6.drew _ _
      have HSw : Hid (w.heap.size ≤ (w6.drew.alloc (.cells #[.slice a1 z.length c1] 43)).heap.size) := Nat.le_trans F5.out.b.size (below_box w6.drew _).size
      have HAw : Hid (∀ v7 w7, w7.ownsRow w.heap.size 43 1 v7 (L.length + 1) (L.map cutV ++ [.slice a1 z.length c1]) → Ap (w6.drew.alloc (.cells #[.slice a1 z.length c1] 43)) (.slice aw L.length cw) w7 v7 → w7.cell? ⟨w.heap.size + 1, 1, none⟩ = some (.slice aw L.length cw) ∧ w7.frozen? ⟨w.heap.size + 1, 1, none⟩ = false ∧ Ls1 w (w7.setCell ⟨w.heap.size + 1, 1, none⟩ v7) v7 (.slice a5 (L.length + 1) c5) (L ++ [(.slice a1 (z.length + 64) c1, z ++ m64)]) (L.map cutV ++ [.slice a1 z.length c1]) []) := fun v7 w7 ho ha => (F5.out.below (Below.refl _ _).drew).appW (by rw [HWl.out]; exact ho) ha
      have ya : (w6.alloc (.cells #[.slice a1 z.length c1] 43)).cell? ⟨w.heap.size + 1, 1, none⟩ = some (.slice aw L.length cw) := (F5.out.below (below_box w6 _)).x.c1
      have HFn : Hid (L.map cutV ++ [.slice a1 z.length c1] = (L ++ [((.slice a1 (z.length + 64) c1 : Value), z ++ m64)]).map cutV ∧ (L ++ [((.slice a1 (z.length + 64) c1 : Value), z ++ m64)]).map Prod.snd = (css.take (k + 1)).map (· ++ m64)) := by
        refine ⟨?_, ?_⟩
        · rw [List.map_append]; simp [cutV]
        · rw [HTk.out, List.map_append, HL.out.2]; rfl
      clear HRa HNa HSa HAr H1 x2 q1 q2
      go_region_law (refine step_append_apk rfl (.tmp 25) (.tmp 33) 22 rfl w.heap.size 43 il (.slice none 0 0) 1 24 Tryz.underlying22 HIl.out.1 HIl.out.2.1 HIl.out.2.2.1 HIl.out.2.2.2 rfl (by decide) (.slice aw L.length cw) L.length (L.map cutV) (by simp [Act.eval, Act.put]) HRw.out ⟨w6.drew.heap.size, 0, none⟩ 1 1 [.slice a1 z.length c1] (by simp [Act.eval, Act.put]) rfl HNw.out (by simp [Value.oneCell']) hl63 hl48 HSw.out ?_; intro v7 w7 own7 ap7; obtain ⟨a7, c7, hv7⟩ := row_form' own7; subst hv7; have K7 := HAw.out _ w7 own7 ap7; have q1 := K7.1; have q2 := K7.2.1; have F7 : Hid (Ls1 w (w7.setCell ⟨w.heap.size + 1, 1, none⟩ (.slice a7 (L.length + 1) c7)) (.slice a7 (L.length + 1) c7) (.slice a5 (L.length + 1) c5) (L ++ [(.slice a1 (z.length + 64) c1, z ++ m64)]) (L.map cutV ++ [.slice a1 z.length c1]) []) := K7.2.2; clear K7 own7 ap7)
      all_goals
        go_wp2
        go_roundg (gk - 1)
        case measure => have := HK.out; have := HLT.out; omega
        case rel => exact ⟨k + 1, _, _, L ++ [(.slice a1 (z.length + 64) c1, z ++ m64)], by have := HK.out; have := HLT.out; omega, by go_num, by rw [← HFn.out.1]; exact F7.out, HFn.out.2⟩
    · obtain rfl : k = css.length := by have := HK.out; omega
      have HLs : Hid (L.map Prod.snd = css.map (· ++ m64)) := by have := HL.out.2; rw [List.take_length] at this; exact this
      have H2 : Hid (Ls1 w wr vw vr L (L.map cutV ++ ([] : List Cls).map Prod.fst) []) := by
        show Ls1 w wr vw vr L (L.map cutV ++ ([] : List Cls).map Prod.fst) []
        simpa using HL.out.1
      generalize hCL : css.length = CL at *
      have HCL : Hid (css.length = CL) := hCL
      clear hCL HL
      go_wp2
      generalize wr = wq at *
      generalize gk = G at *
      go_loopg [6] 64 (fun q i' wr => ∃ (j : Nat) (vw2 : Value) (M : List Cls), j + q = 64 ∧ i' = .int .i64 j ∧ Ls1 w wr vw2 vr L (L.map cutV ++ M.map Prod.fst) M ∧ M.map Prod.snd = mks j)
      case atStart => exact ⟨0, vw, [], by omega, rfl, H2.out, rfl⟩
      case round =>
        obtain ⟨j, vw2, M, hj, rfl, hls, hM⟩ := hrel
        have HJ : Hid (j + gk = 64) := hj
        have H3 : Hid (Ls1 w wr vw2 vr L (L.map cutV ++ M.map Prod.fst) M ∧ M.map Prod.snd = mks j) := ⟨hls, hM⟩
        have HMl : Hid (M.length = j) := by
          have h5 := congrArg List.length hM
          simp only [List.length_map, mks, List.length_range] at h5
          exact h5
        clear hls hM hj
        by_cases hj64 : j < 64
        · have HLT : Hid (j < 64) := hj64
          have HMk : Hid (∀ W, Calls Tryz.prog 18 #[.int .i64 1, .int .i64 j] W fun e w' => e = .returned (.int .i64 (mrk 1 j)) ∧ w' = W) := fun W => mark_any 1 j W (by omega) (by omega)
          have HMs : Hid (mks (j + 1) = mks j ++ [[mrk 1 j]]) := by show _ = _; unfold mks; rw [List.range_succ, List.map_append]; rfl
          have HWl : Hid ((L.map cutV ++ M.map Prod.fst).length ≤ 1073741888) := by
            have h5 := HMl.out
            have h6 := congrArg List.length HLs.out
            have h7 := HR.out.2.1
            have h8 := HCL.out
            simp only [List.length_map] at h6
            show _ ≤ _
            simp only [List.length_append, List.length_map]
            omega
          have hwl := HWl.out
          have y1 := H3.out.1.x.c1
          obtain ⟨aw, cw, ew⟩ := row_form' H3.out.1.l.w
          subst ew
          generalize hWS : L.map cutV ++ M.map Prod.fst = WS at *
          have HWS : Hid (L.map cutV ++ M.map Prod.fst = WS) := hWS
          clear hWS
          generalize mrk 1 j = mk at *
          have hl63 : WS.length + 1 ≤ maxLen := by unfold maxLen; omega
          have hl48 : (WS.length + 1) * 24 ≤ 140737488355328 := by omega
          have H4 : Hid (Ls1 w (wr.drew.alloc (.cells #[.int .i64 mk] 3)) (.slice aw WS.length cw) vr L WS (M ++ [(.slice (some ⟨wr.heap.size, 0, none⟩) 1 1, [mk])])) := by
            have h5 := H3.out.1.below (W' := wr.drew.alloc (.cells #[.int .i64 mk] 3)) (Below.step (Below.refl _ _).drew (below_box _ _))
            exact ⟨h5.x, h5.y, h5.l.addM ((ownOne wr.drew mk).mono H3.out.1.b.size), h5.b⟩
          have HRw : Hid (((wr.drew.alloc (.cells #[.int .i64 mk] 3)).alloc (.cells #[.slice (some ⟨wr.heap.size, 0, none⟩) 1 1] 43)).ownsRow w.heap.size 43 1 (.slice aw WS.length cw) WS.length WS) := World.ownsRow.alloc H4.out.l.w _
          have HNw : Hid (∀ i y, [Value.slice (some ⟨wr.heap.size, 0, none⟩) 1 1][i]? = some y → ((wr.drew.alloc (.cells #[.int .i64 mk] 3)).alloc (.cells #[.slice (some ⟨wr.heap.size, 0, none⟩) 1 1] 43)).cell? ((⟨wr.heap.size + 1, 0, none⟩ : Addr).add i) = some y) := by
            have h5 := one_newR (wr.drew.alloc (.cells #[.int .i64 mk] 3)) (.slice (some ⟨wr.heap.size, 0, none⟩) 1 1) 43
            rw [World.size_alloc] at h5
            exact h5
          have HSw : Hid (w.heap.size ≤ ((wr.drew.alloc (.cells #[.int .i64 mk] 3)).alloc (.cells #[.slice (some ⟨wr.heap.size, 0, none⟩) 1 1] 43)).heap.size) := Nat.le_trans H4.out.b.size (below_box _ _).size
          have HAw : Hid (∀ v7 w7, w7.ownsRow w.heap.size 43 1 v7 (WS.length + 1) (WS ++ [.slice (some ⟨wr.heap.size, 0, none⟩) 1 1]) → Ap ((wr.drew.alloc (.cells #[.int .i64 mk] 3)).alloc (.cells #[.slice (some ⟨wr.heap.size, 0, none⟩) 1 1] 43)) (.slice aw WS.length cw) w7 v7 → w7.cell? ⟨w.heap.size + 1, 1, none⟩ = some (.slice aw WS.length cw) ∧ w7.frozen? ⟨w.heap.size + 1, 1, none⟩ = false ∧ Ls1 w (w7.setCell ⟨w.heap.size + 1, 1, none⟩ v7) v7 vr L (WS ++ [.slice (some ⟨wr.heap.size, 0, none⟩) 1 1]) (M ++ [(.slice (some ⟨wr.heap.size, 0, none⟩) 1 1, [mk])])) := fun v7 w7 ho ha => H4.out.appW ho ha
          have ya : (wr.alloc (.cells #[.int .i64 mk] 3)).cell? ⟨w.heap.size + 1, 1, none⟩ = some (.slice aw WS.length cw) := (H3.out.1.below (below_box wr _)).x.c1
          have yb : ((wr.alloc (.cells #[.int .i64 mk] 3)).alloc (.cells #[.slice (some ⟨wr.heap.size, 0, none⟩) 1 1] 43)).cell? ⟨w.heap.size + 1, 1, none⟩ = some (.slice aw WS.length cw) := (H3.out.1.below (Below.step (below_box wr _) (below_box _ _))).x.c1
          have HFn : Hid (WS ++ [.slice (some ⟨wr.heap.size, 0, none⟩) 1 1] = L.map cutV ++ (M ++ [((.slice (some ⟨wr.heap.size, 0, none⟩) 1 1 : Value), [mk])]).map Prod.fst ∧ (M ++ [((.slice (some ⟨wr.heap.size, 0, none⟩) 1 1 : Value), [mk])]).map Prod.snd = mks (j + 1)) := by
            refine ⟨?_, ?_⟩
            · rw [← HWS.out, List.map_append, List.append_assoc]; rfl
            · rw [HMs.out, List.map_append, H3.out.2]; rfl
          go_upto_region 11 with fail
          go_region_law (first
            | (go_simp; go_at_call 18; refine (HMk.out _).mono ?_; intro e w9 hh; rw [hh.1, hh.2]; clear hh e w9; dsimp only)
            | (refine step_append_apk rfl (.tmp 41) (.tmp 45) 22 rfl w.heap.size 43 il (.slice none 0 0) 1 24 Tryz.underlying22 HIl.out.1 HIl.out.2.1 HIl.out.2.2.1 HIl.out.2.2.2 rfl (by decide) (.slice aw WS.length cw) WS.length WS (by simp [Act.eval, Act.put]) HRw.out ⟨wr.heap.size + 1, 0, none⟩ 1 1 [.slice (some ⟨wr.heap.size, 0, none⟩) 1 1] (by simp [Act.eval, Act.put]) rfl HNw.out (by simp [Value.oneCell']) hl63 hl48 HSw.out ?_; intro v7 w7 own7 ap7; obtain ⟨a7, c7, hv7⟩ := row_form' own7; subst hv7; have K7 := HAw.out _ w7 own7 ap7; have q1 := K7.1; have q2 := K7.2.1; have F7 : Hid (Ls1 w (w7.setCell ⟨w.heap.size + 1, 1, none⟩ (.slice a7 (WS.length + 1) c7)) (.slice a7 (WS.length + 1) c7) vr L (WS ++ [.slice (some ⟨wr.heap.size, 0, none⟩) 1 1]) (M ++ [(.slice (some ⟨wr.heap.size, 0, none⟩) 1 1, [mk])])) := K7.2.2; clear K7 own7 ap7))
          all_goals
            go_wp2
            go_roundg (gk - 1)
            case measure => have := HJ.out; have := HLT.out; omega
            case rel => exact ⟨j + 1, _, M ++ [(.slice (some ⟨wr.heap.size, 0, none⟩) 1 1, [mk])], by have := HJ.out; have := HLT.out; omega, by go_num, by rw [← HFn.out.1]; exact F7.out, HFn.out.2⟩
        · obtain rfl : j = 64 := by have := HJ.out; omega
          have HWl : Hid ((L.map cutV ++ M.map Prod.fst).length = CL + 64) := by
            have h5 := HMl.out
            have h6 := congrArg List.length HLs.out
            have h8 := HCL.out
            simp only [List.length_map] at h6
            show _ = _
            simp only [List.length_append, List.length_map]
            omega
          obtain ⟨aw, cw, ew⟩ := row_form' H3.out.1.l.w
          rw [HWl.out] at ew
          subst ew
          have hcw : CL ≤ cw := by
            rcases H3.out.1.l.w.2 with ⟨e1, e2⟩ | ⟨g', cap', cur, hv, hb, hg, r1, r2, r3, r4⟩
            · rw [HWl.out] at e2; omega
            · injection hv with _ e2 e3
              rw [HWl.out] at r1
              omega
          have hx := H3.out.1.x
          have hy := H3.out.1.y
          have x0 := hx.c0
          have x1 := hx.c1
          have f0 := hx.fz 0
          have hx2 := hx.set0 (.slice aw CL cw)
          have hne : some w.heap.size ≠ some (w.heap.size + 1) := by simp
          have hne2 : some (w.heap.size + 1) ≠ some w.heap.size := by simp
          have hy2 := hy.kept (grown_set wr ⟨w.heap.size + 1, 0, none⟩ (.slice aw CL cw)) hne
          have z0 := hx2.c0
          have z1 := hx2.c1
          have z2 := hx2.c2
          have u0 := hy2.c0
          have g0 := hy2.fz 0
          have hy3 := hy2.set0 (.slice aw CL cw)
          have u1 := hy3.c1
          have g1 := hy3.fz 1
          have hy4 := hy3.set1 (.slice aw (CL + 64) cw)
          have u2 := hy4.c2
          have g2 := hy4.fz 2
          have hy5 := hy4.set2 vr
          have hl2 := H3.out.1.l.box hx (by decide) (by decide) 0 (.slice aw CL cw)
          have hl3 := ((hl2.box hy2 (by decide) (by decide) 0 (.slice aw CL cw)).box hy3 (by decide) (by decide) 1 (.slice aw (CL + 64) cw)).box hy4 (by decide) (by decide) 2 vr
          have hb5 : Below w.heap.size w ((((wr.setCell ⟨w.heap.size + 1, 0, none⟩ (.slice aw CL cw)).setCell ⟨w.heap.size, 0, none⟩ (.slice aw CL cw)).setCell ⟨w.heap.size, 1, none⟩ (.slice aw (CL + 64) cw)).setCell ⟨w.heap.size, 2, none⟩ vr) := (((H3.out.1.b.setCell (p := ⟨w.heap.size + 1, 0, none⟩) (Nat.le_succ _) _).setCell (p := ⟨w.heap.size, 0, none⟩) (Nat.le_refl _) _).setCell (p := ⟨w.heap.size, 1, none⟩) (Nat.le_refl _) _).setCell (p := ⟨w.heap.size, 2, none⟩) (Nat.le_refl _) _
          have HF : Hid (Bx3 ((((wr.setCell ⟨w.heap.size + 1, 0, none⟩ (.slice aw CL cw)).setCell ⟨w.heap.size, 0, none⟩ (.slice aw CL cw)).setCell ⟨w.heap.size, 1, none⟩ (.slice aw (CL + 64) cw)).setCell ⟨w.heap.size, 2, none⟩ vr) w.heap.size 29 (.slice aw CL cw) (.slice aw (CL + 64) cw) vr ∧ Lq w ((((wr.setCell ⟨w.heap.size + 1, 0, none⟩ (.slice aw CL cw)).setCell ⟨w.heap.size, 0, none⟩ (.slice aw CL cw)).setCell ⟨w.heap.size, 1, none⟩ (.slice aw (CL + 64) cw)).setCell ⟨w.heap.size, 2, none⟩ vr) (.slice aw CL cw) (.slice aw (CL + 64) cw) vr css L M) := ⟨hy5, ⟨hl3, HLs.out, H3.out.2, hb5, aw, cw, by rw [HCL.out], by rw [HCL.out]⟩⟩
          obtain ⟨ar, cr, er⟩ := row_form H3.out.1.l.r.row
          subst er
          clear hx hy hx2 hy2 hy3 hy4 hy5 hl2 hl3 hb5
          go_wp2
          refine bodyPost_ret (results_cell_row rfl _ _ w.heap.size 29 #[.slice aw CL cw, .slice aw (CL + 64) cw, .slice ar L.length cr] (0, 0) _ rfl HF.out.1 Tryz.underlying29 rfl (by kernel_rfl)) rfl ?_
          exact ⟨_, _, _, L, M, rfl, HF.out.2⟩
end Go.Proofs.YtlkbbbbclmffjaaGreatDoor
set_option linter.unusedSimpArgs false
set_option linter.unusedVariables false
namespace Go.Proofs.YtlkbbbbclmffjaaGreatDoor
open Go Go.RowKit Go.Shelf
attribute [local go_sem] Oper.semAt_some

set_option maxRecDepth 100000 in
set_option maxHeartbeats 2000000 in
theorem keptQ_any (B : Nat) (x v : Value) (zs : List Int) (w : World) (ho : Own B w x (zs ++ m64)) (hr : Rd w v zs) :
    Calls Tryz.prog 23 #[x, v] w fun e w' => e = .returned (.bool true) ∧ ∃ n, w' = w.drewN n := by
  have hl := hr.len
  have HR : Hid (∀ W, Below w.heap.size w W → Rd W v zs) := fun W h => hr.below h
  have HO : Hid (∀ W, Below w.heap.size w W → Own B W x (zs ++ m64)) := fun W h => ho.below h
  obtain ⟨_, av, cv, rfl, -⟩ := id hr
  obtain ⟨ax, cx, e⟩ := row_slice1 ho
  rw [List.length_append, m64_len] at e
  subst e
  clear hr ho
  go_enter Tryz.func23, Tryz.ntmps23
  go_wp2
  go_loopg [5] zs.length (fun g i wr => ∃ k : Nat, k + g = zs.length ∧ i = .int .i64 k ∧ ∃ n, wr = w.drewN n)
  case atStart => exact ⟨0, by omega, rfl, 0, rfl⟩
  case round =>
  obtain ⟨k, hk, rfl, n0, hn0⟩ := hrel
  have bel : Below w.heap.size w wr := by rw [hn0]; exact below_drewN _ _
  have HK : Hid (k + gk = zs.length) := hk
  by_cases hlt : k < zs.length
  · obtain ⟨_, _, _, e, _, _, _, h2⟩ := HR.out wr bel
    cases e
    obtain ⟨b, off, e, hb, hcell⟩ := h2 (by intro h; rw [h] at hlt; simp at hlt)
    have hck := hcell k hlt
    subst e
    obtain ⟨g, cap, e, hcap, hcg⟩ := cell_app_left (HO.out wr bel) hlt
    rw [m64_len] at e hcap
    cases e
    have BE : Hid (wr = w.drewN n0) := hn0
    clear hcell h2 hk bel hn0
    generalize zs.getD k 0 = z at *
    go_wp2
    go_quiet (fail)
    go_wp2
    go_roundg (gk - 1)
    case measure => have := HK.out; omega
    case rel => exact ⟨k + 1, by have := HK.out; omega, by go_num, _, by rw [BE.out, World.drewN_drewN]⟩
  have e : k = zs.length := by omega
  subst e
  clear hk hlt HK
  have BEL : Hid (∃ n, wr = w.drewN n) := ⟨n0, hn0⟩
  clear bel hn0
  generalize wr = w2 at *
  go_wp2
  go_loopg [6] 64 (fun g i wr => ∃ k : Nat, k + g = 64 ∧ i = .int .i64 k ∧ ∃ n, wr = w.drewN n)
  case atStart => exact ⟨0, by omega, rfl, BEL.out⟩
  case round =>
  obtain ⟨k, hk, rfl, n0, hn0⟩ := hrel
  have bel : Below w.heap.size w wr := by rw [hn0]; exact below_drewN _ _
  have HK : Hid (k + gk = 64) := hk
  by_cases hlt : k < 64
  · obtain ⟨g, cap, e, hcap, hcg⟩ := cell_app_right (HO.out wr bel) (i := k) (by rw [m64_len]; exact hlt)
    rw [m64_len] at e hcap
    cases e
    rw [m64_at hlt] at hcg
    have HM : Hid (∀ W, Calls Tryz.prog 18 #[.int .i64 0, .int .i64 k] W fun e w' => e = .returned (.int .i64 (mrk 0 k)) ∧ w' = W) := fun W => mark_any 0 k W (by omega) (by omega)
    have BE : Hid (wr = w.drewN n0) := hn0
    clear hk bel hn0
    generalize mrk 0 k = z at *
    go_wp2
    go_quiet ((go_at_call 18; exact Calls.quiet_of_same (HM.out _)))
    go_wp2
    go_roundg (gk - 1)
    case measure => have := HK.out; omega
    case rel => exact ⟨k + 1, by have := HK.out; omega, by go_num, _, by rw [BE.out, World.drewN_drewN]⟩
  have e : k = 64 := by omega
  subst e
  clear hk hlt HK
  go_wp2
  go_ret
  first
  | exact ⟨rfl, n0, rfl⟩
  | exact ⟨rfl, n0, hn0⟩


/-- what KeptRows reads -/
structure Lk (B : Nat) (W : World) (vw vr : Value) (css : List (List Int)) (L M : List Cls) : Prop where
  l : Lr B W vw vr L (L.map cutV ++ M.map Prod.fst) M
  ls : L.map Prod.snd = css.map (· ++ m64)
  ms : M.map Prod.snd = mks 64
theorem Lk.below {B : Nat} {W W' : World} {vw vr : Value} {css : List (List Int)} {L M : List Cls} (h : Lk B W vw vr css L M) (hb : Below W.heap.size W W') : Lk B W' vw vr css L M := ⟨h.l.below hb, h.ls, h.ms⟩
theorem Lq.k {w W : World} {vi vw vr : Value} {css : List (List Int)} {L M : List Cls} (h : Lq w W vi vw vr css L M) : Lk w.heap.size W vw vr css L M := ⟨h.l, h.ls, h.ms⟩
section
variable {B : Nat} {W : World} {vw vr : Value} {css : List (List Int)} {L M : List Cls}
theorem Lk.len (h : Lk B W vw vr css L M) : L.length = css.length ∧ M.length = 64 := by
  have h1 := congrArg List.length h.ls
  have h2 := congrArg List.length h.ms
  simp only [List.length_map, mks, List.length_range] at h1 h2
  exact ⟨h1, h2⟩
/-- the k-th row -/
theorem Lk.at (h : Lk B W vw vr css L M) {k : Nat} (hk : k < css.length) : ∃ gw cw gr cr a c, vw = .slice (some ⟨gw, 0, none⟩) (css.length + 64) cw ∧ css.length + 64 ≤ cw ∧ vr = .slice (some ⟨gr, 0, none⟩) css.length cr ∧ css.length ≤ cr ∧ W.cell? ⟨gw, k, none⟩ = some (.slice a (css.getD k []).length c) ∧ W.cell? ⟨gr, k, none⟩ = some (.slice a ((css.getD k []).length + 64) c) ∧ Own B W (.slice a ((css.getD k []).length + 64) c) (css.getD k [] ++ m64) := by
  obtain ⟨l1, l2⟩ := h.len
  have hkL : k < L.length := by omega
  have hx : L[k] ∈ L := List.getElem_mem hkL
  have ho := h.l.r.own _ hx
  have hz : (L[k]).2 = css.getD k [] ++ m64 := by
    have h3 := congrArg (fun l => l[k]?) h.ls
    simp only [List.getElem?_map, List.getElem?_eq_getElem hkL, List.getElem?_eq_getElem hk, Option.map_some] at h3
    injection h3 with h3
    rw [h3, List.getD_eq_getElem?_getD, List.getElem?_eq_getElem hk]; rfl
  obtain ⟨a, c, e⟩ := own_form ho
  rw [hz, m64_app_len] at e
  obtain ⟨gr, cr, er, r1, -, -⟩ := row_some h.l.r.row (by omega)
  have hw := h.l.w
  have hwl : (L.map cutV ++ M.map Prod.fst).length = css.length + 64 := by simp only [List.length_append, List.length_map]; omega
  obtain ⟨gw, cw, ew, w1, -, -⟩ := row_some hw (by omega)
  rw [hwl] at ew w1
  have hr := h.l.r.row
  rw [er] at hr
  have c1 := row_cell hr (j := k) (x := (L[k]).1) (by rw [List.getElem?_map, List.getElem?_eq_getElem hkL]; rfl)
  rw [ew, hwl] at hw
  have c2 := row_cell hw (j := k) (x := cutV (L[k])) (by rw [List.getElem?_append_left (by rw [List.length_map]; exact hkL), List.getElem?_map, List.getElem?_eq_getElem hkL]; rfl)
  rw [e] at c1 ho
  have ecut : cutV (L[k]) = .slice a (css.getD k []).length c := by unfold cutV; rw [e]; simp
  rw [ecut] at c2
  rw [l1] at er r1
  rw [hz] at ho
  exact ⟨gw, cw, gr, cr, a, c, ew, w1, er, r1, c2, c1, ho⟩
/-- the i-th mark -/
theorem Lk.mrkAt (h : Lk B W vw vr css L M) {i : Nat} (hi : i < 64) : ∃ gw cw g c, vw = .slice (some ⟨gw, 0, none⟩) (css.length + 64) cw ∧ css.length + 64 ≤ cw ∧ W.cell? ⟨gw, css.length + i, none⟩ = some (.slice (some ⟨g, 0, none⟩) 1 c) ∧ 1 ≤ c ∧ W.cell? ⟨g, 0, none⟩ = some (.int .i64 (mrk 1 i)) := by
  obtain ⟨l1, l2⟩ := h.len
  have hiM : i < M.length := by omega
  have ho := h.l.m _ (List.getElem_mem hiM)
  have hz : (M[i]).2 = [mrk 1 i] := by
    have h3 := congrArg (fun l => l[i]?) h.ms
    simp only [mks, List.getElem?_map, List.getElem?_eq_getElem hiM, List.getElem?_range hi, Option.map_some] at h3
    injection h3
  rw [hz] at ho
  obtain ⟨g, c, e, o1, -, -⟩ := row_some ho (by simp)
  have hw := h.l.w
  have hwl : (L.map cutV ++ M.map Prod.fst).length = css.length + 64 := by simp only [List.length_append, List.length_map]; omega
  obtain ⟨gw, cw, ew, w1, -, -⟩ := row_some hw (by omega)
  rw [hwl] at ew w1
  rw [ew, hwl] at hw
  have c2 := row_cell hw (j := css.length + i) (x := (M[i]).1) (by rw [List.getElem?_append_right (by rw [List.length_map]; omega), List.length_map, l1, show css.length + i - css.length = i by omega, List.getElem?_map, List.getElem?_eq_getElem hiM]; rfl)
  have e' : (M[i]).1 = .slice (some ⟨g, 0, none⟩) 1 c := e
  rw [e'] at c2 ho
  exact ⟨gw, cw, g, c, ew, w1, c2, o1, row_cell ho (j := 0) rfl⟩
end
theorem m64_left (z : List Int) {j : Nat} (h : j < z.length) : (z ++ m64).getD j 0 = z.getD j 0 := by
  rw [List.getD_eq_getElem?_getD, List.getD_eq_getElem?_getD, List.getElem?_append_left h]
set_option maxRecDepth 100000 in
set_option maxHeartbeats 6400000 in
theorem keptRows_any (B : Nat) (vi vw vr v : Value) (css : List (List Int)) (L M : List Cls) (w : World) (hk : Lk B w vw vr css L M) (hr : Rds w v css) (hb : css.length ≤ 1073741824) :
    Calls Tryz.prog 7 #[.agg #[vi, vw, vr], v] w fun e w' => e = .returned (.bool true) ∧ Below w.heap.size w w' := by
  obtain ⟨a, c, rfl, h1, h2, hAT⟩ := hr.form
  have HAT : Hid (∀ (k : Nat), k < css.length → ∃ bb off u cu, a = some ⟨bb, off, none⟩ ∧ ∀ W, Below w.heap.size w W → W.cell? ⟨bb, off + k, none⟩ = some (.slice u (css.getD k []).length cu) ∧ Rd W (.slice u (css.getD k []).length cu) (css.getD k [])) := fun k hk => by
    obtain ⟨bb, off, u, e, kc, hrd⟩ := hAT k hk
    obtain ⟨au, cu, eu, -, -, -⟩ := hrd.form
    subst eu
    exact ⟨bb, off, au, cu, e, fun W hW => ⟨(hW.cell (p := ⟨bb, off + k, none⟩) (World.block_lt_of_cell? w _ kc)).trans kc, hrd.below hW⟩⟩
  have HL : Hid (∀ W, Below w.heap.size w W → Lk B W vw vr css L M) := fun W hW => hk.below hW
  have HZl : Hid (∀ z ∈ css, z.length * 8 ≤ 140737488351232) := rds_each hr
  have HX : Hid (Bx3 (w.alloc (.cells #[vi, vw, vr] 29)) w.heap.size 29 vi vw vr) := World.alloc_heap_new w _
  have HB0 : Hid (Below w.heap.size w (w.alloc (.cells #[vi, vw, vr] 29))) := below_box _ _
  obtain ⟨gw, cw, -, -, ew, hcw, -, -, -⟩ := hk.mrkAt (i := 0) (by omega)
  have er : ∃ ar cr, vr = .slice ar css.length cr := by
    obtain ⟨ar, cr, e⟩ := row_form hk.l.r.row
    exact ⟨ar, cr, by rw [e, hk.len.1]⟩
  obtain ⟨ar, cr, er⟩ := er
  subst ew; subst er
  have x1 := HX.out.c1
  have x2 := HX.out.c2
  clear hr hAT hk
  generalize hCL : css.length = CL at *
  have HCL : Hid (css.length = CL) := hCL
  clear hCL
  go_enter Tryz.func7, Tryz.ntmps7
  go_wp2
  generalize w.alloc (.cells #[vi, .slice (some ⟨gw, 0, none⟩) (CL + 64) cw, .slice ar CL cr] 29) = W0 at *
  clear x1 x2
  go_loopg [5, 6, 7] CL (fun q i' r' j' wr => ∃ k : Nat, k + q = CL ∧ i' = .int .i64 k ∧ Below W0.heap.size W0 wr)
  case atStart => exact ⟨0, by omega, rfl, Below.refl _ _⟩
  case round =>
    obtain ⟨k, hk, rfl, hbw⟩ := hrel
    have HK : Hid (k + gk = CL) := hk
    have HW : Hid (Below W0.heap.size W0 wr ∧ Below w.heap.size w wr) := ⟨hbw, Below.step HB0.out hbw⟩
    have x1 := (HX.out.below hbw).c1
    have x2 := (HX.out.below hbw).c2
    clear hk hbw
    by_cases hlt : k < CL
    · have hltc : k < css.length := by rw [HCL.out]; exact hlt
      obtain ⟨bb, off, au, cu, rfl, hcr⟩ := HAT.out k hlt
      obtain ⟨kc, hrd⟩ := hcr wr HW.out.2
      obtain ⟨gw', cw', gr, cr', a1, c1, e1, -, e2, h5, c2, c3, ho⟩ := (HL.out wr HW.out.2).at hltc
      rw [HCL.out] at e1 e2 h5
      injection e1 with e1 _ e1c
      injection e1 with e1; injection e1 with e1
      injection e2 with e2 _ e2c
      subst e1; subst e1c; subst e2; subst e2c
      have HKe : Hid (∀ n, Calls Tryz.prog 23 #[.slice a1 ((css.getD k []).length + 64) c1, .slice au (css.getD k []).length cu] (wr.drewN n) fun e w' => e = .returned (.bool true) ∧ ∃ m, w' = (wr.drewN n).drewN m) := fun n => keptQ_any B _ _ (css.getD k []) (wr.drewN n) (ho.below (below_drewN _ _)) (hrd.below (below_drewN _ _))
      have HCo : Hid (∀ j, j < (css.getD k []).length → ∃ g, a1 = some ⟨g, 0, none⟩ ∧ (css.getD k []).length + 64 ≤ c1 ∧ ∀ W, Below wr.heap.size wr W → W.cell? ⟨g, j, none⟩ = some (.int .i64 ((css.getD k []).getD j 0))) := fun j hj => by
        obtain ⟨g, cc, e, h6, h7⟩ := own_at ho (i := j) (by rw [m64_app_len]; omega)
        rw [m64_app_len] at e h6
        injection e with e _ e3
        subst e; subst e3
        rw [m64_left _ hj] at h7
        exact ⟨g, rfl, h6, fun W hW => (hW.cell (p := ⟨g, j, none⟩) (World.block_lt_of_cell? wr _ h7)).trans h7⟩
      have HCr : Hid (∀ j, j < (css.getD k []).length → ∃ g o, au = some ⟨g, o, none⟩ ∧ ∀ W, Below wr.heap.size wr W → W.cell? ⟨g, o + j, none⟩ = some (.int .i64 ((css.getD k []).getD j 0))) := fun j hj => by
        obtain ⟨a9, c9, e9, -, -, h9⟩ := hrd.form
        injection e9 with e9 _ _
        subst e9
        obtain ⟨g, o, e, h7⟩ := h9 j hj
        exact ⟨g, o, e, fun W hW => (hW.cell (p := ⟨g, o + j, none⟩) (World.block_lt_of_cell? wr _ h7)).trans h7⟩
      have HKc : Hid (∀ W, Below w.heap.size w W → W.cell? ⟨bb, off + k, none⟩ = some (.slice au (css.getD k []).length cu)) := fun W hW => (hcr W hW).1
      have HLT : Hid (k < CL) := hlt
      have hzl := HZl.out _ (getD_inR hltc)
      clear hcr hrd ho
      generalize css.getD k [] = z at *
      go_wp2
      go_quiet ((go_at_call 23; exact Calls.quiet_of (HKe.out _)))
      go_wp2
      rename_i nq
      generalize wr = w5 at *
      generalize gk = G at *
      go_loopg [7] z.length (fun q j' wx => ∃ j : Nat, j + q = z.length ∧ j' = .int .i64 j ∧ Below w5.heap.size w5 wx)
      case atStart => exact ⟨0, by omega, rfl, below_drewN _ _⟩
      case round =>
        obtain ⟨j, hj, rfl, hbx⟩ := hrel
        have HJ : Hid (j + gk = z.length) := hj
        have HBx : Hid (Below w5.heap.size w5 wr) := hbx
        by_cases hjl : j < z.length
        · obtain ⟨g1, rfl, h6, d1⟩ := HCo.out j hjl
          obtain ⟨g2, o2, rfl, d2⟩ := HCr.out j hjl
          have k1 := d1 wr hbx
          have k2 := d2 wr hbx
          have k3 := HKc.out wr (HW.out.2.trans (hbx.mono HW.out.2.size))
          have HJL : Hid (j < z.length) := hjl
          clear d1 d2 hbx hj kc c2 c3 x1 x2
          generalize z.getD j 0 = y at *
          go_wp2
          go_quiet (fail)
          go_wp2
          go_roundg (gk - 1)
          case measure => have := HJ.out; have := HJL.out; omega
          case rel => exact ⟨j + 1, by have := HJ.out; have := HJL.out; omega, by go_num, HBx.out.trans ((below_drewN _ _).mono HBx.out.size)⟩
        · have HBy : Hid (Below W0.heap.size W0 wr) := Below.step HW.out.1 hbx
          clear hbx hj kc c2 c3 x1 x2
          go_wp2
          go_roundg (G - 1)
          case measure => have := HK.out; have := HLT.out; omega
          case rel => exact ⟨k + 1, by have := HK.out; have := HLT.out; omega, by go_num, HBy.out⟩
    · obtain rfl : k = CL := by have := HK.out; omega
      clear x1 x2
      go_wp2
      generalize wr = w5 at *
      generalize gk = G at *
      go_loopg [8, 9] 64 (fun q i' r' wx => ∃ i : Nat, i + q = 64 ∧ i' = .int .i64 i ∧ Below w5.heap.size w5 wx)
      case atStart => exact ⟨0, by omega, rfl, Below.refl _ _⟩
      case round =>
        obtain ⟨i, hi, rfl, hbx⟩ := hrel
        have HJ : Hid (i + gk = 64) := hi
        have HBx : Hid (Below w5.heap.size w5 wr) := hbx
        by_cases hil : i < 64
        · obtain ⟨gw', cw', g, c1, e1, -, c2, h6, c3⟩ := (HL.out wr (HW.out.2.trans (hbx.mono HW.out.2.size))).mrkAt hil
          rw [HCL.out] at e1 c2
          injection e1 with e1 _ e1c
          injection e1 with e1; injection e1 with e1
          subst e1; subst e1c
          have x1 := (HX.out.below (Below.step HW.out.1 hbx)).c1
          have HM : Hid (∀ W, Calls Tryz.prog 18 #[.int .i64 1, .int .i64 i] W fun e w' => e = .returned (.int .i64 (mrk 1 i)) ∧ w' = W) := fun W => mark_any 1 i W (by omega) (by omega)
          have HIL : Hid (i < 64) := hil
          clear hbx hi
          generalize mrk 1 i = mk at *
          go_wp2
          go_quiet ((go_at_call 18; exact Calls.quiet_of_same (HM.out _)))
          go_wp2
          go_roundg (gk - 1)
          case measure => have := HJ.out; have := HIL.out; omega
          case rel => exact ⟨i + 1, by have := HJ.out; have := HIL.out; omega, by go_num, HBx.out.trans ((below_drewN _ _).mono HBx.out.size)⟩
        · have HF : Hid (Below w.heap.size w wr) := HW.out.2.trans (hbx.mono HW.out.2.size)
          clear hbx hi
          go_wp2
          go_ret
          exact ⟨rfl, HF.out⟩
end Go.Proofs.YtlkbbbbclmffjaaGreatDoor
set_option linter.unusedSimpArgs false
set_option linter.unusedVariables false
namespace Go.Proofs.YtlkbbbbclmffjaaGreatDoor
open Go Go.RowKit Go.Shelf

/-- the blocks of rows that are lent -/
def Lown (vw vr : Value) (L : List Cls) (k : Nat) : Prop := some k = vw.ownBlock ∨ some k = vr.ownBlock ∨ ∃ x ∈ L, some k = x.1.ownBlock
/-- a step that leaves all but a set of blocks -/
structure Fr (Q : Nat → Prop) (w W : World) : Prop where
  os : W.os = w.os
  tape : W.tape = w.tape
  output : W.output = w.output
  size : w.heap.size ≤ W.heap.size
  block : ∀ k, k < w.heap.size → ¬ Q k → W.heap[k]? = w.heap[k]?
theorem Fr.refl (Q : Nat → Prop) (w : World) : Fr Q w w := ⟨rfl, rfl, rfl, Nat.le_refl _, fun _ _ _ => rfl⟩
theorem Fr.below {Q : Nat → Prop} {w W W' : World} (h : Fr Q w W) (hb : Below W.heap.size W W') : Fr Q w W' := ⟨hb.os.trans h.os, hb.tape.trans h.tape, hb.output.trans h.output, Nat.le_trans h.size hb.size, fun k hk hq => (hb.block k (Nat.lt_of_lt_of_le hk h.size)).trans (h.block k hk hq)⟩
theorem Fr.grown {Q : Nat → Prop} {w W W' : World} {row : Option Nat} (h : Fr Q w W) (hg : W.grownBy W' row) (hq : ∀ g, row = some g → Q g) : Fr Q w W' := ⟨hg.os.trans h.os, hg.tape.trans h.tape, hg.output.trans h.output, Nat.le_trans h.size hg.size, fun k hk hn => (hg.block k (Nat.lt_of_lt_of_le hk h.size) (fun e => hn (hq k e.symm))).trans (h.block k hk hn)⟩
structure Ovl (B : Nat) (w W : World) (D : Nat) (vi vw vr : Value) (L : List Cls) (ws : List Value) : Prop where
  x : Bx3 W D 29 vi vw vr
  r : W.ownsRow B 43 1 vr L.length (L.map Prod.fst)
  wh : W.ownsRow B 43 1 vw ws.length ws
  o : ∀ (j : Nat) (hj : j < L.length), ∃ Z, Z.length = (L[j]).2.length ∧ Own B W (L[j]).1 Z
  f : Fr (Lown vw vr L) w W
theorem Ovl.over {B D : Nat} {w W W' : World} {vi vw vr : Value} {L : List Cls} {ws : List Value} {k : Nat} {Z X : List Int} (h : Ovl B w W D vi vw vr L ws) (hap : ApartC L) (hk : k < L.length) (ho : Own B W (L[k]).1 X) (hz : Z.length = (L[k]).2.length) (hz' : Own B W' (L[k]).1 Z) (hg : W.grownBy W' (L[k]).1.ownBlock) : Ovl B w W' D vi vw vr L ws := by
  refine ⟨h.x.kept hg (h.x.not_row (by decide) ho), row_apart (by decide) h.r ho hg, row_apart (by decide) h.wh ho hg, fun j hj => ?_, h.f.grown hg fun g e => .inr (.inr ⟨L[k], List.getElem_mem hk, e.symm⟩)⟩
  by_cases e : j = k
  · subst e; exact ⟨Z, hz, hz'⟩
  · obtain ⟨Y, h1, h2⟩ := h.o j hj
    refine ⟨Y, h1, World.ownsRow.kept h2 hg ?_⟩
    have hp := List.pairwise_iff_getElem.1 hap
    rcases Nat.lt_or_gt_of_ne e with h3 | h3
    · exact hp j k hj hk h3
    · rcases hp k j hk hj h3 with h4 | h4
      · cases hv : (L[j]).1.ownBlock with
        | none => exact .inl rfl
        | some g => exact .inr (by rw [h4]; simp)
      · exact .inr (Ne.symm h4)
structure Owl (B : Nat) (w W : World) (D : Nat) (vi vw vr : Value) (L : List Cls) (k : Nat) (xs : List Value) : Prop where
  x : Bx3 W D 29 vi vw vr
  wh : W.ownsRow B 43 1 vw xs.length xs
  o : ∀ j, j < k → ∃ u, xs[j]? = some u ∧ Own B W u [1, -1, 2] ∧ ∀ g, u.ownBlock = some g → w.heap.size ≤ g
  f : Fr (Lown vw vr L) w W
theorem Owl.step {B D : Nat} {w W : World} {vi vr : Value} {L : List Cls} {k gw cw N : Nat} {xs : List Value} (h : Owl B w W D vi (.slice (some ⟨gw, 0, none⟩) N cw) vr L k xs) (hN : xs.length = N) (hk : k < N) (hB : B ≤ w.heap.size) :
    Owl B w ((W.alloc (.cells #[.int .i64 1, .int .i64 (-1), .int .i64 2] 3)).setCell ⟨gw, k, none⟩ (.slice (some ⟨W.heap.size, 0, none⟩) 3 3)) D vi (.slice (some ⟨gw, 0, none⟩) N cw) vr L (k + 1) (xs.set k (.slice (some ⟨W.heap.size, 0, none⟩) 3 3)) := by
  have hal := below_box W (.cells #[.int .i64 1, .int .i64 (-1), .int .i64 2] 3)
  have hw1 : (W.alloc (.cells #[.int .i64 1, .int .i64 (-1), .int .i64 2] 3)).ownsRow B 43 1 (.slice (some ⟨gw, 0, none⟩) N cw) N xs := by have := World.ownsRow.alloc h.wh (.cells #[.int .i64 1, .int .i64 (-1), .int .i64 2] 3); rw [hN] at this; exact this
  have hg := grown_set (W.alloc (.cells #[.int .i64 1, .int .i64 (-1), .int .i64 2] 3)) ⟨gw, k, none⟩ (.slice (some ⟨W.heap.size, 0, none⟩) 3 3)
  have hx1 := h.x.below hal
  have hnew : Own B (W.alloc (.cells #[.int .i64 1, .int .i64 (-1), .int .i64 2] 3)) (.slice (some ⟨W.heap.size, 0, none⟩) 3 3) [1, -1, 2] := ⟨rfl, .inr ⟨W.heap.size, 3, _, rfl, Nat.le_trans hB h.f.size, World.alloc_heap_new W _, Nat.le_refl _, by unfold maxLen; decide, rfl, rfl⟩⟩
  have keep : ∀ {u : Value} {Z : List Int}, Own B (W.alloc (.cells #[.int .i64 1, .int .i64 (-1), .int .i64 2] 3)) u Z → Own B ((W.alloc (.cells #[.int .i64 1, .int .i64 (-1), .int .i64 2] 3)).setCell ⟨gw, k, none⟩ (.slice (some ⟨W.heap.size, 0, none⟩) 3 3)) u Z := fun ho => own_rows (by decide) ho hw1 hg
  refine ⟨hx1.kept hg (hx1.not_row (by decide) hw1), ?_, fun j hj => ?_, (h.f.below hal).grown hg fun g e => .inl e.symm⟩
  · rw [List.length_set, hN]
    exact own_cell hw1 (by omega) _
  · by_cases e : k = j
    · subst e
      exact ⟨_, List.getElem?_set_self (by omega), keep hnew, fun g e => by cases e; exact h.f.size⟩
    · obtain ⟨u, h1, h2, h3⟩ := h.o j (by omega)
      exact ⟨u, by rw [List.getElem?_set_ne e]; exact h1, keep (h2.below hal), h3⟩
theorem over_rds {B : Nat} {W : World} {gw cw N n : Nat} {xs : List Value} (hw : W.ownsRow B 43 1 (.slice (some ⟨gw, 0, none⟩) N cw) N xs) (ho : ∀ j, j < N → ∃ u, xs[j]? = some u ∧ Own B W u [1, -1, 2]) (hn : n ≤ N) (hb : N ≤ 2147483648) : Rds W (.slice (some ⟨gw, 0, none⟩) n cw) (List.replicate n [1, -1, 2]) := by
  obtain ⟨g, c, e, h1, h2⟩ : ∃ g c, Value.slice (some ⟨gw, 0, none⟩) N cw = .slice (some ⟨g, 0, none⟩) N c ∧ N ≤ c ∧ c ≤ maxLen := by
    rcases hw.2 with ⟨e1, _⟩ | ⟨g', cap', cur, hv, hb', hg', r1, r2, r3, r4⟩
    · simp at e1
    · exact ⟨g', cap', hv, r1, r2⟩
  injection e with e1 _ e3
  subst e3
  refine ⟨by simp; omega, some ⟨gw, 0, none⟩, cw, by simp, by simp; omega, h2, by simp, fun hne => ⟨gw, 0, rfl, (hw.lt gw rfl).2, fun j hj => ?_⟩⟩
  have hj' : j < n := by simpa using hj
  obtain ⟨u, h3, h4⟩ := ho j (by omega)
  refine ⟨u, by rw [Nat.zero_add]; exact row_cell hw h3, ?_⟩
  have : (List.replicate n [(1 : Int), -1, 2]).getD j [] = [1, -1, 2] := by simp [List.getD_eq_getElem?_getD, hj']
  rw [this]
  exact h4.rd (by decide)
theorem Owl.rds {B D : Nat} {w W : World} {vi vr : Value} {L : List Cls} {gw cw N n : Nat} {xs : List Value} (h : Owl B w W D vi (.slice (some ⟨gw, 0, none⟩) N cw) vr L N xs) (hN : xs.length = N) (hn : n ≤ N) (hb : N ≤ 2147483648) : Rds W (.slice (some ⟨gw, 0, none⟩) n cw) (List.replicate n [1, -1, 2]) := by
  have hw := h.wh
  rw [hN] at hw
  exact over_rds hw (fun j hj => by obtain ⟨u, h1, h2, -⟩ := h.o j hj; exact ⟨u, h1, h2⟩) hn hb
/-- what was written over reads as it does whatever becomes of other lists -/
theorem Owl.rds2 {B D : Nat} {w W W' : World} {vi vr : Value} {L : List Cls} {gw cw N n : Nat} {xs : List Value} {Q : Nat → Prop} (h : Owl B w W D vi (.slice (some ⟨gw, 0, none⟩) N cw) vr L N xs) (hN : xs.length = N) (hn : n ≤ N) (hb : N ≤ 2147483648) (hf : Fr Q W W') (hq : ∀ k, Q k → k < w.heap.size ∧ k ≠ gw) : Rds W' (.slice (some ⟨gw, 0, none⟩) n cw) (List.replicate n [1, -1, 2]) := by
  have hw := h.wh
  rw [hN] at hw
  refine over_rds (row_kept hw fun k e => hf.block k (hw.lt k e.symm).2 (fun hk => (hq k hk).2 (by simpa [Value.ownBlock] using e))) (fun j hj => ?_) hn hb
  obtain ⟨u, h1, h2, h3⟩ := h.o j hj
  exact ⟨u, h1, row_kept h2 fun k e => hf.block k (h2.lt k e.symm).2 (fun hk => by have := (hq k hk).1; have := h3 k e.symm; omega)⟩
set_option maxRecDepth 100000 in
set_option maxHeartbeats 6400000 in
theorem overRows2_any (B : Nat) (vi vr : Value) (gw cw N : Nat) (L : List Cls) (ws : List Value) (M : List Cls) (w : World) (h : Lr B w (.slice (some ⟨gw, 0, none⟩) N cw) vr L ws M) (hN : ws.length = N) (hN2 : N ≤ 2147483648) (hLn : L.length ≤ 2147483648) (hl : ∀ x ∈ L, x.2.length ≤ 35184372088832) (hB : B ≤ w.heap.size) :
    Calls Tryz.prog 9 #[.agg #[vi, .slice (some ⟨gw, 0, none⟩) N cw, vr]] w fun e w' => e = .returned (.tuple #[]) ∧ Fr (Lown (.slice (some ⟨gw, 0, none⟩) N cw) vr L) w w' ∧ ∀ n, n ≤ N → ∀ (Q : Nat → Prop) W', Fr Q w' W' → (∀ k, Q k → k < w.heap.size ∧ k ≠ gw) → Rds W' (.slice (some ⟨gw, 0, none⟩) n cw) (List.replicate n [1, -1, 2]) := by
  have H0 : Hid (Ovl B w (w.alloc (.cells #[vi, .slice (some ⟨gw, 0, none⟩) N cw, vr] 29)) w.heap.size vi (.slice (some ⟨gw, 0, none⟩) N cw) vr L ws) := by
    have h2 := h.below (below_box w (.cells #[vi, .slice (some ⟨gw, 0, none⟩) N cw, vr] 29))
    exact ⟨World.alloc_heap_new w _, h2.r.row, h2.w, fun j hj => ⟨_, rfl, h2.r.own _ (List.getElem_mem hj)⟩, (Fr.refl _ _).below (below_box _ _)⟩
  have HAp : Hid (ApartC L ∧ (∀ x ∈ L, x.2.length ≤ 35184372088832) ∧ ws.length = N ∧ B ≤ w.heap.size) := ⟨h.r.ap, hl, hN, hB⟩
  obtain ⟨ar, cr, er⟩ := row_form h.r.row
  subst er
  have x1 := H0.out.x.c1
  have x2 := H0.out.x.c2
  clear h hl hN hB
  go_enter Tryz.func9, Tryz.ntmps9
  go_wp2
  generalize w.alloc (.cells #[vi, .slice (some ⟨gw, 0, none⟩) N cw, .slice ar L.length cr] 29) = W0 at *
  generalize hD : w.heap.size = D at H0 x1 x2 ⊢
  have HD : Hid (w.heap.size = D) := hD
  clear hD x1 x2
  go_loopg [2] L.length (fun q i' wr => ∃ k : Nat, k + q = L.length ∧ i' = .int .i64 k ∧ Ovl B w wr D vi (.slice (some ⟨gw, 0, none⟩) N cw) (.slice ar L.length cr) L ws)
  case atStart => exact ⟨0, by omega, rfl, H0.out⟩
  case round =>
    obtain ⟨k, hk, rfl, hov⟩ := hrel
    have HK : Hid (k + gk = L.length) := hk
    have H1 : Hid (Ovl B w wr D vi (.slice (some ⟨gw, 0, none⟩) N cw) (.slice ar L.length cr) L ws) := hov
    have x1 := hov.x.c1
    have x2 := hov.x.c2
    by_cases hlt : k < L.length
    · obtain ⟨X, hXl, hX⟩ := hov.o k hlt
      obtain ⟨gr, cr', er, r1, -, -⟩ := row_some hov.r (by omega)
      injection er with er _ er3
      subst er; subst er3
      have kc := row_cell hov.r (j := k) (x := (L[k]).1) (by rw [List.getElem?_map, List.getElem?_eq_getElem hlt]; rfl)
      obtain ⟨a1, c1, e1⟩ := own_form hX
      have HOv : Hid (Calls Tryz.prog 25 #[.slice a1 X.length c1] wr fun e w' => (∃ v, e = .returned v) ∧ Ovl B w w' D vi (.slice (some ⟨gw, 0, none⟩) N cw) (.slice (some ⟨gr, 0, none⟩) L.length cr) L ws) := by
        have h5 := over_any B (L[k]).1 X wr hX (by rw [hXl]; exact HAp.out.2.1 _ (List.getElem_mem hlt))
        rw [e1] at h5
        refine h5.mono ?_
        rintro e w' ⟨h6, ⟨Z, h7, h8⟩, h9⟩
        refine ⟨h6, H1.out.over HAp.out.1 hlt hX (h7.trans hXl) (by rw [e1]; exact h8) (by rw [e1]; exact h9)⟩
      rw [e1] at kc
      have HLT : Hid (k < L.length) := hlt
      clear hX hXl hov hk e1
      generalize X.length = xl at *
      go_wp2_with fail
      refine Calls.mono HOv.out ?_
      rintro e w1 ⟨⟨v1, rfl⟩, hov1⟩
      have H2 : Hid (Ovl B w w1 D vi (.slice (some ⟨gw, 0, none⟩) N cw) (.slice (some ⟨gr, 0, none⟩) L.length cr) L ws) := hov1
      clear hov1
      go_wp2
      go_roundg (gk - 1)
      case measure => have := HK.out; have := HLT.out; omega
      case rel => exact ⟨k + 1, by have := HK.out; have := HLT.out; omega, by go_num, H2.out⟩
    · have H3 : Hid (Owl B w wr D vi (.slice (some ⟨gw, 0, none⟩) N cw) (.slice ar L.length cr) L 0 ws) := ⟨hov.x, hov.wh, fun j hj => (by omega), hov.f⟩
      clear hov hk
      go_wp2
      generalize wr = w5 at *
      generalize gk = G at *
      clear x1 x2
      go_loopg [3] N (fun q i' wr => ∃ (k2 : Nat) (xs : List Value), k2 + q = N ∧ i' = .int .i64 k2 ∧ xs.length = N ∧ Owl B w wr D vi (.slice (some ⟨gw, 0, none⟩) N cw) (.slice ar L.length cr) L k2 xs)
      case atStart => exact ⟨0, ws, by omega, rfl, HAp.out.2.2.1, H3.out⟩
      case round =>
        obtain ⟨k2, xs, hk2, rfl, hxl, how⟩ := hrel
        have HJ : Hid (k2 + gk = N) := hk2
        have HX : Hid (xs.length = N) := hxl
        have H4 : Hid (Owl B w wr D vi (.slice (some ⟨gw, 0, none⟩) N cw) (.slice ar L.length cr) L k2 xs) := how
        have x1 := how.x.c1
        by_cases hl2 : k2 < N
        · have H5 := (show Hid _ from how.step hxl hl2 HAp.out.2.2.2)
          have hxl2 : (xs.set k2 (.slice (some ⟨wr.heap.size, 0, none⟩) 3 3)).length = N := by rw [List.length_set]; exact hxl
          have HX2 := (show Hid _ from hxl2)
          have hw1 : (wr.alloc (.cells #[.int .i64 1, .int .i64 (-1), .int .i64 2] 3)).ownsRow B 43 1 (.slice (some ⟨gw, 0, none⟩) N cw) N xs := by have := World.ownsRow.alloc how.wh (.cells #[.int .i64 1, .int .i64 (-1), .int .i64 2] 3); rw [hxl] at this; exact this
          have hcw : N ≤ cw := by
            rcases hw1.2 with ⟨e1, _⟩ | ⟨g', cap', cur, hv, hb', hg', r1, r2, r3, r4⟩
            · simp at e1
            · injection hv with _ _ e3; omega
          obtain ⟨y, hy⟩ : ∃ y, xs[k2]? = some y := ⟨_, List.getElem?_eq_getElem (by omega)⟩
          have k1 := row_cell hw1 hy
          have k3 := row_fz hw1 k2
          have HL2 : Hid (k2 < N) := hl2
          clear how hk2 hxl hxl2 hw1 hy
          go_wp2
          go_roundg (gk - 1)
          case measure => have := HJ.out; have := HL2.out; omega
          case rel => exact ⟨k2 + 1, _, by have := HJ.out; have := HL2.out; omega, by go_num, HX2.out, H5.out⟩
        · obtain rfl : k2 = N := by omega
          have HF : Hid (Fr (Lown (.slice (some ⟨gw, 0, none⟩) k2 cw) (.slice ar L.length cr) L) w wr ∧ ∀ n, n ≤ k2 → ∀ (Q : Nat → Prop) W', Fr Q wr W' → (∀ k, Q k → k < w.heap.size ∧ k ≠ gw) → Rds W' (.slice (some ⟨gw, 0, none⟩) n cw) (List.replicate n [1, -1, 2])) := ⟨how.f, fun n hn Q W' hf hq => how.rds2 hxl hn hN2 hf hq⟩
          clear how hk2 hxl
          go_wp2
          go_end0
          exact ⟨rfl, HF.out⟩
theorem overRows_any (B : Nat) (vi vr : Value) (gw cw N : Nat) (L : List Cls) (ws : List Value) (M : List Cls) (w : World) (h : Lr B w (.slice (some ⟨gw, 0, none⟩) N cw) vr L ws M) (hN : ws.length = N) (hN2 : N ≤ 2147483648) (hLn : L.length ≤ 2147483648) (hl : ∀ x ∈ L, x.2.length ≤ 35184372088832) (hB : B ≤ w.heap.size) :
    Calls Tryz.prog 9 #[.agg #[vi, .slice (some ⟨gw, 0, none⟩) N cw, vr]] w fun e w' => e = .returned (.tuple #[]) ∧ Fr (Lown (.slice (some ⟨gw, 0, none⟩) N cw) vr L) w w' ∧ ∀ n, n ≤ N → Rds w' (.slice (some ⟨gw, 0, none⟩) n cw) (List.replicate n [1, -1, 2]) := by
  refine (overRows2_any B vi vr gw cw N L ws M w h hN hN2 hLn hl hB).mono ?_
  rintro e w' ⟨h1, h2, h3⟩
  exact ⟨h1, h2, fun n hn => h3 n hn (fun _ => False) w' (Fr.refl _ _) (fun k hk => hk.elim)⟩
end Go.Proofs.YtlkbbbbclmffjaaGreatDoor
