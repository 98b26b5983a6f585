/-
  depotkit.ApartInts, walked: lists that lie apart.
  KEEP: set on app at below new trans refl start ap kept rd rds mono row push put step side drew drewN mark weaken less store slice place cell lt prefix setOther
-/
import Derived.Test.YtbhjpahieghepaaOwnA
import Derived.Shelf.Lay
import Derived.Maps.AppendAt
import Derived.ArgAppend
import Derived.OneCell
import Derived.BigQuiet
set_option linter.unusedSimpArgs false
set_option linter.unusedVariables false
namespace Go.Proofs.Ytbhjpahieghepaa
open Go Go.RowKit Go.Shelf

attribute [local go_sem] Oper.semAt_some

theorem grown_of_below {w w' : World} (h : Below w.heap.size w w') : w.grownBy w' none := ⟨h.os, h.tape, h.output, h.size, fun k hk _ => h.block k hk⟩
theorem own_store {base : Nat} {w : World} {g cap n m : Nat} {Y : List Int} {z : Int} (h : Own base w (.slice (some ⟨g, 0, none⟩) n cap) Y) (hl : Y.length = n) :
    Own base (w.setCell ⟨g, m, none⟩ (.int .i64 z)) (.slice (some ⟨g, 0, none⟩) n cap) (Y.set m z) := by
  subst hl
  by_cases hm : m < Y.length
  · have h1 := own_cell (k := m) h (by omega) (.int .i64 z)
    unfold Own
    rw [List.length_set, List.map_set]
    exact h1
  · rw [List.set_eq_of_length_le (by omega)]
    rcases h.2 with ⟨e, _⟩ | ⟨g', cap', cur, hv, hb, hg, h1, h2, h3, h4⟩
    · simp at e
    · injection hv with ha _ hc
      injection ha with ha; injection ha with ha; subst ha; subst hc
      refine ⟨h.1, .inr ⟨g, cap, cur.setIfInBounds m (.int .i64 z), rfl, hb, set_heap hg m _, h1, h2, by simpa using h3, ?_⟩⟩
      rw [Array.toList_setIfInBounds, List.take_set, h4, List.set_eq_of_length_le (by simp; omega)]

section
variable {P : Program} (w : World)
/-- append onto a row of one's own: in its block, or in a new one -/
theorem run_append_two (base : Nat) (t ty e : TypeId) (i : TypeInfo) (z : Value) (bytes : Nat) (ht : P.underlying t = some (.slice e)) (hi : P.info? e = some i) (hz : i.zero = some z)
    (hsize : i.size = 1) (hby : i.bytes = bytes) (hzs : z.cells.size = 1)
    (v : Value) (n : Nat) (xs : List Value) (hown : w.ownsRow base e 1 v n xs)
    (a : Addr) (m c : Nat) (news : List Value) (hl : news.length = m) (hnews : ∀ j u, news[j]? = some u → w.cell? (a.add j) = some u) (h1 : ∀ u ∈ news, u.oneCell' = true)
    (hm : 0 < m) (h63 : n + m ≤ maxLen) (hbytes : (n + m) * bytes ≤ 140737488355328) (hbase : base ≤ w.heap.size) :
    ∃ v' w', (Builtin.append_ #[t, t] ty #[v, .slice (some a) m c]).run P w = .ok v' w' ∧ w'.ownsRow base e 1 v' (n + m) (xs ++ news) ∧
      ((∃ g cap, v = .slice (some ⟨g, 0, none⟩) n cap ∧ v' = .slice (some ⟨g, 0, none⟩) (n + m) cap ∧ w.grownBy w' (some g)) ∨ (w'.ownsRow w.heap.size e 1 v' (n + m) (xs ++ news) ∧ w.grownBy w' none)) := by
  have hl1 : news.length = m * 1 := by omega
  have hlen : (xs ++ news).length = (n + m) * 1 := by rw [List.length_append, hown.1, hl1, Nat.add_mul]
  have up : ∀ {v' : Value} {w' : World}, w'.ownsRow w.heap.size e 1 v' (n + m) (xs ++ news) → w'.ownsRow base e 1 v' (n + m) (xs ++ news) := fun h => by
    refine ⟨h.1, ?_⟩
    rcases h.2 with hn | ⟨g, cap, cur, hv, hb', hg, r⟩
    · exact .inl hn
    · exact .inr ⟨g, cap, cur, hv, Nat.le_trans hbase hb', hg, r⟩
  rcases hown.2 with ⟨rfl, rfl⟩ | ⟨g, cap, cur, rfl, hbg, hg, hnc, hcm, hcs, htake⟩
  · have hx : xs = [] := List.eq_nil_of_length_eq_zero (by simpa using hown.1)
    subst hx
    obtain ⟨v', w', hr, h2, h3, -⟩ := run_append_own (P := P) w w.heap.size t ty e i z 1 bytes ht hi hz hsize hby hzs (by omega) (.slice none 0 0) 0 [] (World.ownsRow_nil w _ e 1) a m c news hl1 hnews h1 h63 hbytes (Nat.le_refl _)
    exact ⟨v', w', hr, up h2, .inr ⟨h2, h3⟩⟩
  · by_cases hroom : n + m ≤ cap
    · have hfit : n * i.size + news.length ≤ cur.size := by rw [hl, hcs, hsize]; omega
      have hr := run_append_room (P := P) w t ty e i ht hi g n cap cur hg a m c news (by rw [hl, hsize]; omega) hnews h1 hroom hfit
      refine ⟨_, _, hr, ⟨hlen, .inr ⟨g, cap, _, rfl, hbg, setRow_heap w g cur _ e _ hg, hroom, hcm, ?_, ?_⟩⟩, .inl ⟨g, cap, rfl, rfl, ⟨rfl, rfl, rfl, by simp, fun k _ hk => setRow_other w g k _ (fun e => hk (by simp [e]))⟩⟩⟩
      · simp only [List.size_toArray, List.length_append, List.length_take, List.length_drop, Array.length_toList, hsize]
        omega
      · rw [hsize, htake, ← hlen]
        exact List.take_left
    · have holds : ∀ j u, xs[j]? = some u → w.cell? ((⟨g, 0, none⟩ : Addr).add j) = some u := hown.cells (g := g) rfl
      obtain ⟨v', w', hrun, r1, r2⟩ := run_append_arg_grows (P := P) w t ty e i z 1 bytes ht hi hz hsize hby hzs (by omega) ⟨g, 0, none⟩ n cap xs hown.1 holds a m c news hl1 hnews (by omega) h63 hbytes
      exact ⟨v', w', hrun, up r1, .inr ⟨r1, r2⟩⟩

theorem wpList_append_two {ops : Array Oper} {rest : List Oper} {o : Oper} {a : Act} {Q : Exit → Act → World → Prop} (hgd : o.guard = none) (s x : Operand) (t : TypeId)
    (ho : o.op = .call { callee := .builtin .append, args := #[s, x], argTypes := #[t, t] })
    (base : Nat) (e : TypeId) (i : TypeInfo) (z : Value) (bytes : Nat) (ht : P.underlying t = some (.slice e)) (hi : P.info? e = some i) (hz : i.zero = some z)
    (hsize : i.size = 1) (hby : i.bytes = bytes) (hzs : z.cells.size = 1)
    (v : Value) (n : Nat) (xs : List Value) (hs : a.eval s = v) (hown : w.ownsRow base e 1 v n xs)
    (ad : Addr) (m c : Nat) (news : List Value) (hx : a.eval x = .slice (some ad) m c) (hl : news.length = m) (hnews : ∀ j u, news[j]? = some u → w.cell? (ad.add j) = some u) (h1 : ∀ u ∈ news, u.oneCell' = true)
    (hm : 0 < m) (h63 : n + m ≤ maxLen) (hbytes : (n + m) * bytes ≤ 140737488355328) (hbase : base ≤ w.heap.size)
    (h : ∀ v' w', w'.ownsRow base e 1 v' (n + m) (xs ++ news) →
      ((∃ g cap, v = .slice (some ⟨g, 0, none⟩) n cap ∧ v' = .slice (some ⟨g, 0, none⟩) (n + m) cap ∧ w.grownBy w' (some g)) ∨ (w'.ownsRow w.heap.size e 1 v' (n + m) (xs ++ news) ∧ w.grownBy w' none)) → wpList P ops Q rest (a.put o.dst v') w') :
    wpList P ops Q (o :: rest) a w := by
  refine wpList_plain hgd fun K hK => ?_
  obtain ⟨v', w', hr, h2, h3⟩ := run_append_two (P := P) w base t o.type e i z bytes ht hi hz hsize hby hzs v n xs hown ad m c news hl hnews h1 hm h63 hbytes hbase
  unfold Oper.wp execOp
  simp only [ho, resolve, invoke, builtin, Sem.run_bind, Sem.run_pure, Result.andThen_ok, List.map_toArray, List.map_cons, List.map_nil, hs, hx, hr]
  exact hK _ _ (h v' w' h2 h3)
end

/-- a shorter row in the block of one that has grown there -/
theorem own_prefix {B B' : Nat} {e : TypeId} {w w' : World} {v0 : Value} {n0 n m g cap : Nat} {xs0 xs news : List Value} (h0 : w.ownsRow B e 1 v0 n0 xs0) (hb : v0.ownBlock = some g) (hv : w.ownsRow B' e 1 (.slice (some ⟨g, 0, none⟩) n cap) n xs) (hn : n0 ≤ n)
    (hv' : w'.ownsRow B' e 1 (.slice (some ⟨g, 0, none⟩) (n + m) cap) (n + m) (xs ++ news)) : w'.ownsRow B e 1 v0 n0 xs0 := by
  refine ⟨h0.1, ?_⟩
  rcases h0.2 with ⟨rfl, _⟩ | ⟨g0, cap0, cur, rfl, hbg, hg, hnc, hcm, hcs, ht⟩
  · cases hb
  · cases hb
    rcases hv.2 with ⟨e1, _⟩ | ⟨g1, cap1, cur1, e1, _, hg1, hnc1, hcm1, hcs1, ht1⟩
    · cases e1
    · cases e1
      rw [hg] at hg1
      cases hg1
      rcases hv'.2 with ⟨e2, _⟩ | ⟨g2, cap2, cur2, e2, _, hg2, hnc2, hcm2, hcs2, ht2⟩
      · cases e2
      · cases e2
        refine .inr ⟨_, _, cur2, rfl, hbg, hg2, hnc, hcm, by omega, ?_⟩
        have hx0 : xs0 = xs.take (n0 * 1) := by rw [← ht, ← ht1, List.take_take]; congr 1; omega
        have hxl : xs.length = n := by have := hv.1; omega
        rw [hx0, show cur2.toList.take (n0 * 1) = (cur2.toList.take ((n + m) * 1)).take (n0 * 1) by rw [List.take_take]; congr 1; omega, ht2, List.take_append_of_le_length (by omega)]

/-- rows of unlike types lie apart -/
theorem ownsRow_apart {base base' e e' s s' : Nat} {w w' : World} {v u : Value} {n n' : Nat} {xs xs' : List Value} (hne : e ≠ e') (h : w.ownsRow base e s v n xs) (hu : w.ownsRow base' e' s' u n' xs') (hg : w.grownBy w' u.ownBlock) : w'.ownsRow base e s v n xs := by
  refine ⟨h.1, ?_⟩
  rcases h.2 with hn | ⟨g, cap, cur, hv, hb', hh, r⟩
  · exact .inl hn
  · refine .inr ⟨g, cap, cur, hv, hb', ?_, r⟩
    rw [hg.block g (Array.getElem?_eq_some_iff.1 hh).1 (fun e => ?_)]
    · exact hh
    · rcases hu.2 with ⟨hn, _⟩ | ⟨g', cap', cur', hv', _, hh', _⟩
      · subst hn; cases e
      · subst hv'
        have e' : g' = g := by simpa [Value.ownBlock] using e.symm
        subst e'
        rw [hh] at hh'
        cases hh'
        exact hne rfl
theorem block_apart {base base' e e' s s' : Nat} {w : World} {v u : Value} {n n' g : Nat} {xs xs' : List Value} (hne : e ≠ e') (h : w.ownsRow base e s v n xs) (hu : w.ownsRow base' e' s' u n' xs') (hg : u.ownBlock = some g) : v.ownBlock ≠ some g := by
  intro hv
  rcases h.2 with ⟨rfl, _⟩ | ⟨g1, cap, cur, rfl, hb', hh, r⟩
  · cases hv
  rcases hu.2 with ⟨rfl, _⟩ | ⟨g', cap', cur', rfl, _, hh', _⟩
  · cases hg
  simp only [Value.ownBlock, Option.map_some, Option.some.injEq] at hv hg
  subst hv
  subst hg
  rw [hh] at hh'
  cases hh'
  exact hne rfl

/-- the mark of a place -/
theorem mrk_ex : ∃ f : Nat → Nat → Int, ∀ k i : Nat, f k i = wrap64 (wrap64 (1000003 * ((k : Int) + 7)) + (i : Int)) := ⟨_, fun _ _ => rfl⟩
noncomputable def mrk : Nat → Nat → Int := Classical.choose mrk_ex
theorem mrk_eq (k i : Nat) : mrk k i = wrap64 (wrap64 (1000003 * ((k : Int) + 7)) + (i : Int)) := Classical.choose_spec mrk_ex k i
/-- a list of n numbers of the call's own whose first c bear their marks -/
def Pm (B : Nat) (w : World) (v : Value) (k n c : Nat) : Prop := ∃ Y : List Int, Own B w v Y ∧ Y.length = n ∧ ∀ t, t < c → Y.getD t 0 = mrk k t
theorem Pm.slice {B : Nat} {w : World} {v : Value} {k n c : Nat} (h : Pm B w v k n c) : ∃ a cap, v = .slice a n cap := by
  obtain ⟨Y, ho, rfl, -⟩ := h
  rcases ho.2 with ⟨rfl, hn⟩ | ⟨g, cap, cur, hv, _⟩
  · exact ⟨none, 0, by rw [hn]⟩
  · exact ⟨_, _, hv⟩
theorem Pm.place {B : Nat} {w : World} {v : Value} {k n c i : Nat} (h : Pm B w v k n c) (hi : i < n) : ∃ g cap y, v = .slice (some ⟨g, 0, none⟩) n cap ∧ B ≤ g ∧ n ≤ cap ∧ w.cell? ⟨g, i, none⟩ = some (.int .i64 y) ∧ w.frozen? ⟨g, i, none⟩ = false := by
  obtain ⟨Y, ho, rfl, -⟩ := h
  have hne : Y ≠ [] := by intro e; rw [e] at hi; simp at hi
  obtain ⟨g, cap, e, hH, hg, hbase, hncap, hmm⟩ := trown_holds ho hne
  refine ⟨g, cap, Y.getD i 0, e, hbase, hncap, ?_, ?_⟩
  · have := (hH i (by simpa using hi)).1
    simpa [List.getD_eq_getElem?_getD, getElem!_def, Array.getElem?_eq_getElem, hi] using this
  · have := (hH i (by simpa using hi)).2
    simpa using this
theorem Pm.cell {B : Nat} {w : World} {v : Value} {k n c i : Nat} (h : Pm B w v k n c) (hi : i < n) (hc : i < c) : ∃ g cap, v = .slice (some ⟨g, 0, none⟩) n cap ∧ n ≤ cap ∧ w.cell? ⟨g, i, none⟩ = some (.int .i64 (mrk k i)) := by
  obtain ⟨Y, ho, rfl, hm⟩ := h
  have hne : Y ≠ [] := by intro e; rw [e] at hi; simp at hi
  obtain ⟨g, cap, e, hH, hg, hbase, hncap, hmm⟩ := trown_holds ho hne
  refine ⟨g, cap, e, hncap, ?_⟩
  rw [← hm i hc]
  have := (hH i (by simpa using hi)).1
  simpa [List.getD_eq_getElem?_getD, getElem!_def, Array.getElem?_eq_getElem, hi] using this
theorem Pm.store {B : Nat} {w : World} {g cap k n i : Nat} (h : Pm B w (.slice (some ⟨g, 0, none⟩) n cap) k n i) (hi : i < n) : Pm B (w.setCell ⟨g, i, none⟩ (.int .i64 (mrk k i))) (.slice (some ⟨g, 0, none⟩) n cap) k n (i + 1) := by
  obtain ⟨Y, ho, hY, hm⟩ := h
  refine ⟨Y.set i (mrk k i), own_store ho hY, by rw [List.length_set]; exact hY, fun t ht => ?_⟩
  by_cases e : t = i
  · subst e
    simp [List.getD_eq_getElem?_getD, List.getElem?_set, hY, hi]
  · have := hm t (by omega)
    simp only [List.getD_eq_getElem?_getD] at this ⊢
    rw [List.getElem?_set_ne (by omega)]
    exact this
theorem Pm.setOther {B : Nat} {w : World} {v : Value} {k n c g i : Nat} (h : Pm B w v k n c) (hne : v.ownBlock ≠ some g) (x : Value) : Pm B (w.setCell ⟨g, i, none⟩ x) v k n c := by
  obtain ⟨Y, ho, hY, hm⟩ := h
  exact ⟨Y, ownsRow_setCell_other ho (a := ⟨g, i, none⟩) hne x, hY, hm⟩
theorem Pm.kept {B : Nat} {w w' : World} {v : Value} {k n c : Nat} {row : Option Nat} (h : Pm B w v k n c) (hg : w.grownBy w' row) (hne : v.ownBlock = none ∨ v.ownBlock ≠ row) : Pm B w' v k n c := by
  obtain ⟨Y, ho, hY, hm⟩ := h
  exact ⟨Y, World.ownsRow.kept ho hg hne, hY, hm⟩
theorem Pm.less {B : Nat} {w : World} {v : Value} {k n c c' : Nat} (h : Pm B w v k n c) (hc : c' ≤ c) : Pm B w v k n c' := by
  obtain ⟨Y, ho, hY, hm⟩ := h
  exact ⟨Y, ho, hY, fun t ht => hm t (by omega)⟩
theorem Pm.lt {B : Nat} {w : World} {v : Value} {k n c : Nat} (h : Pm B w v k n c) : ∀ b, v.ownBlock = some b → B ≤ b ∧ b < w.heap.size := by
  obtain ⟨Y, ho, hY, hm⟩ := h
  exact World.ownsRow.lt ho

end Go.Proofs.Ytbhjpahieghepaa
