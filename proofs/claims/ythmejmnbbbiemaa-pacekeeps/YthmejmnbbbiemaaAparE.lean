/-
  depotkit.ApartBeats: rows of Beats that lie apart (walks/genape.py writes it).
  KEEP: set on app at below new trans refl start ap kept rd rds mono row push put step side drew drewN mark weaken less store slice place cell lt prefix setOther len cells same size block alloc keep own nil form
-/
import Derived.Test.YthmejmnbbbiemaaPcX
import Derived.Test.YthmejmnbbbiemaaPcY
import Derived.Test.YthmejmnbbbiemaaLists
import Derived.Shelf.Lay
import Derived.Maps.AppendAt
import Derived.ArgAppend
import Derived.OneCell
import Derived.BigQuiet
set_option linter.unusedSimpArgs false
set_option linter.unusedVariables false
namespace Go.Proofs.Ythmejmnbbbiemaa
open Go Go.RowKit Go.Shelf

attribute [local go_sem] Oper.semAt_some

theorem set_heap {w : World} {g : Nat} {c : Array Value} {e : TypeId} {f : Nat × Nat} (h : w.heap[g]? = some (.cells c e f)) (k : Nat) (v : Value) : (w.setCell ⟨g, k, none⟩ v).heap[g]? = some (.cells (c.setIfInBounds k v) e f) := by
  obtain ⟨hlt, hk⟩ := Array.getElem?_eq_some_iff.1 h
  show (w.heap.modify g _)[g]? = _
  rw [Array.getElem?_eq_getElem (by rw [Array.size_modify]; exact hlt), Array.getElem_modify_self, hk]
  rfl
theorem row_some {w : World} {base e size n : Nat} {v : Value} {xs : List Value} (h : w.ownsRow base e size v n xs) (hn : 0 < n) : ∃ g cap, v = .slice (some ⟨g, 0, none⟩) n cap ∧ n ≤ cap ∧ cap ≤ maxLen ∧ g < w.heap.size := by
  rcases h.2 with ⟨_, e1⟩ | ⟨g', cap', cur, hv, hb, hg, h1, h2, h3, h4⟩
  · omega
  · exact ⟨g', cap', hv, h1, h2, (Array.getElem?_eq_some_iff.1 hg).1⟩
theorem row_cell {w : World} {base e size n g cap : Nat} {xs : List Value} (h : w.ownsRow base e size (.slice (some ⟨g, 0, none⟩) n cap) n xs) {j : Nat} {x : Value} (hj : xs[j]? = some x) : w.cell? ⟨g, j, none⟩ = some x := by
  have := h.cells (g := g) rfl j x hj
  rw [Addr.add_lit] at this
  simpa using this
theorem row_fz {w : World} {base e size n g cap : Nat} {xs : List Value} (h : w.ownsRow base e size (.slice (some ⟨g, 0, none⟩) n cap) n xs) (j : Nat) : w.frozen? ⟨g, j, none⟩ = false := by
  rcases h.2 with ⟨e1, _⟩ | ⟨g', cap', cur, hv, hb, hg, h1, h2, h3, h4⟩
  · simp at e1
  · injection hv with ha _ hc
    injection ha with ha; injection ha with ha; subst ha
    simp [World.frozen?, hg]
theorem own_cell {w : World} {base e size n g cap k : Nat} {xs : List Value} (h : w.ownsRow base e size (.slice (some ⟨g, 0, none⟩) n cap) n xs) (hk : k < n * size) (x : Value) :
    (w.setCell ⟨g, k, none⟩ x).ownsRow base e size (.slice (some ⟨g, 0, none⟩) n cap) n (xs.set k x) := by
  rcases h.2 with ⟨e1, _⟩ | ⟨g', cap', cur, hv, hb, hg, h1, h2, h3, h4⟩
  · simp at e1
  · injection hv with ha _ hc
    injection ha with ha; injection ha with ha; subst ha; subst hc
    refine ⟨by rw [List.length_set]; exact h.1, .inr ⟨g, cap, cur.setIfInBounds k x, rfl, hb, ?_, h1, h2, by simpa using h3, ?_⟩⟩
    · exact set_heap hg k x
    · rw [Array.toList_setIfInBounds, List.take_set, h4]
theorem grown_of_below {w w' : World} (h : Below w.heap.size w w') : w.grownBy w' none := ⟨h.os, h.tape, h.output, h.size, fun k hk _ => h.block k hk⟩
theorem ownsRow_apart {base base' e e' s s' : Nat} {w w' : World} {v u : Value} {n n' : Nat} {xs xs' : List Value} (hne : e ≠ e') (h : w.ownsRow base e s v n xs) (hu : w.ownsRow base' e' s' u n' xs') (hg : w.grownBy w' u.ownBlock) : w'.ownsRow base e s v n xs := by
  refine ⟨h.1, ?_⟩
  rcases h.2 with hn | ⟨g, cap, cur, hv, hb', hh, r⟩
  · exact .inl hn
  · refine .inr ⟨g, cap, cur, hv, hb', ?_, r⟩
    rw [hg.block g (Array.getElem?_eq_some_iff.1 hh).1 (fun e => ?_)]
    · exact hh
    · rcases hu.2 with ⟨hn, _⟩ | ⟨g', cap', cur', hv', _, hh', _⟩
      · subst hn; cases e
      · subst hv'
        have e' : g' = g := by simpa [Value.ownBlock] using e.symm
        subst e'
        rw [hh] at hh'
        cases hh'
        exact hne rfl
theorem block_apart {base base' e e' s s' : Nat} {w : World} {v u : Value} {n n' g : Nat} {xs xs' : List Value} (hne : e ≠ e') (h : w.ownsRow base e s v n xs) (hu : w.ownsRow base' e' s' u n' xs') (hg : u.ownBlock = some g) : v.ownBlock ≠ some g := by
  intro hv
  rcases h.2 with ⟨rfl, _⟩ | ⟨g1, cap, cur, rfl, hb', hh, r⟩
  · cases hv
  rcases hu.2 with ⟨rfl, _⟩ | ⟨g', cap', cur', rfl, _, hh', _⟩
  · cases hg
  simp only [Value.ownBlock, Option.map_some, Option.some.injEq] at hv hg
  subst hv
  subst hg
  rw [hh] at hh'
  cases hh'
  exact hne rfl
theorem mrk_ex : ∃ f : Nat → Nat → Int, ∀ k i : Nat, f k i = wrap64 (wrap64 (1000003 * ((k : Int) + 7)) + (i : Int)) := ⟨_, fun _ _ => rfl⟩
noncomputable def mrk : Nat → Nat → Int := Classical.choose mrk_ex
theorem mrk_eq (k i : Nat) : mrk k i = wrap64 (wrap64 (1000003 * ((k : Int) + 7)) + (i : Int)) := Classical.choose_spec mrk_ex k i
theorem mark_any (k i : Nat) (w : World) (hk : k ≤ 9007199254740992) (hi : i ≤ 35184372088832) :
    Calls Try.prog 16 #[.int .i64 k, .int .i64 i] w fun e w' => e = .returned (.int .i64 (mrk k i)) ∧ w' = w := by
  have HE : Hid (mrk k i = wrap64 (wrap64 (1000003 * ((k : Int) + 7)) + (i : Int))) := mrk_eq k i
  go_enter Try.func16, Try.ntmps16
  go_wp2
  go_ret
  exact ⟨by rw [HE.out]; rfl, rfl⟩
theorem heap_other {W : World} {k : Nat} (a : Addr) (v : Value) (ha : a.block ≠ k) : (W.setCell a v).heap[k]? = W.heap[k]? := by
  show (W.heap.modify a.block _)[k]? = _
  rw [Array.getElem?_modify, if_neg ha]
theorem row_cells {base e s : Nat} {w : World} {v : Value} {n : Nat} {xs : List Value} (h : w.ownsRow base e s v n xs) : ∀ (j : Nat) (o : Obj), v.ownBlock = some j → w.heap[j]? = some o → o.isCells = true := fun j o ej hj => by
  rcases h.2 with ⟨rfl, _⟩ | ⟨g, cap, cur, rfl, _, hgb, _⟩
  · cases ej
  · cases ej
    rw [hgb] at hj
    cases hj
    rfl
theorem none_or (x : Option Nat) : x = none ∨ x ≠ none := Classical.em _
theorem szA (w : World) (o : Obj) : w.heap.size < (w.alloc o).heap.size := by simp
theorem row_slice {B K : Nat} {e : TypeId} {w : World} {x : Value} {xs : List Value} (h : w.ownsRow B e 1 x K xs) : ∃ a c, x = .slice a K c := by
  rcases h.2 with ⟨hv, hn⟩ | ⟨g, cap, cur, hv, _⟩
  · exact ⟨none, 0, by rw [hv, hn]⟩
  · exact ⟨_, _, hv⟩
theorem pr_ex : ∃ f : Nat → Nat → Bool, ∀ k i : Nat, f k i = (((k : Int) + (i : Int)) % 2 == 0) := ⟨fun k i => (((k : Int) + (i : Int)) % 2 == 0), fun _ _ => rfl⟩
noncomputable def pr : Nat → Nat → Bool := Classical.choose pr_ex
theorem pr_eq (k i : Nat) : pr k i = (((k : Int) + (i : Int)) % 2 == 0) := Classical.choose_spec pr_ex k i
theorem btC_append (X Y : List (Int × Bool)) : btC (X ++ Y) = btC X ++ btC Y := by unfold btC; rw [List.flatMap_append]
theorem btC_at : ∀ (Y : List (Int × Bool)) (j : Nat) (a : Int) (b : Bool), Y[j]? = some (a, b) → (btC Y)[j * 2]? = some (.int .i64 a) ∧ (btC Y)[j * 2 + 1]? = some (.bool b)
  | [], j, a, b, h => by simp at h
  | x :: r, 0, a, b, h => by
    simp at h
    subst h
    exact ⟨rfl, rfl⟩
  | x :: r, j + 1, a, b, h => by
    have := btC_at r j a b (by simpa using h)
    have e : btC (x :: r) = [.int .i64 x.1, .bool x.2] ++ btC r := rfl
    rw [e, List.getElem?_append_right (by simp; omega), List.getElem?_append_right (by simp; omega)]
    simpa [show (j + 1) * 2 - 2 = j * 2 by omega, show (j + 1) * 2 + 1 - 2 = j * 2 + 1 by omega] using this
theorem btC_set : ∀ (Y : List (Int × Bool)) (j : Nat) (a : Int) (b : Bool), ((btC Y).set (j * 2) (.int .i64 a)).set (j * 2 + 1) (.bool b) = btC (Y.set j (a, b))
  | [], j, a, b => by simp [btC]
  | x :: r, 0, a, b => rfl
  | x :: r, j + 1, a, b => by
    have e : btC (x :: r) = .int .i64 x.1 :: .bool x.2 :: btC r := rfl
    have e2 : btC ((x :: r).set (j + 1) (a, b)) = .int .i64 x.1 :: .bool x.2 :: btC (r.set j (a, b)) := rfl
    rw [e, e2, ← btC_set r j a b, show (j + 1) * 2 = j * 2 + 1 + 1 by omega]
    rfl
theorem btC_cell1 (Y : List (Int × Bool)) : ∀ u ∈ btC Y, u.oneCell' = true := fun u hu => by
  unfold btC at hu
  obtain ⟨c, _, h⟩ := List.mem_flatMap.1 hu
  simp at h
  rcases h with rfl | rfl <;> rfl
theorem own_storee {base : Nat} {w : World} {g cap n m : Nat} {Y : List (Int × Bool)} {a : Int} {b : Bool} (h : OwnB base w (.slice (some ⟨g, 0, none⟩) n cap) Y) (hl : Y.length = n) (hm : m < n) :
    OwnB base ((w.setCell ⟨g, m * 2, none⟩ (.int .i64 a)).setCell ⟨g, m * 2 + 1, none⟩ (.bool b)) (.slice (some ⟨g, 0, none⟩) n cap) (Y.set m (a, b)) := by
  subst hl
  have h1 := own_cell (k := m * 2) h (by omega) (.int .i64 a)
  have h2 := own_cell (k := m * 2 + 1) h1 (by omega) (.bool b)
  unfold OwnB
  rw [List.length_set, ← btC_set]
  exact h2
section
variable {P : Program} (w : World)
theorem run_append_twos (base : Nat) (t ty e : TypeId) (i : TypeInfo) (z : Value) (size bytes : Nat) (ht : P.underlying t = some (.slice e)) (hi : P.info? e = some i) (hz : i.zero = some z)
    (hsize : i.size = size) (hby : i.bytes = bytes) (hzs : z.cells.size = size) (hsz : 0 < size)
    (v : Value) (n : Nat) (xs : List Value) (hown : w.ownsRow base e size v n xs)
    (a : Addr) (m c : Nat) (news : List Value) (hl : news.length = m * size) (hnews : ∀ j u, news[j]? = some u → w.cell? (a.add j) = some u) (h1 : ∀ u ∈ news, u.oneCell' = true)
    (hm : 0 < m) (h63 : n + m ≤ maxLen) (hbytes : (n + m) * bytes ≤ 140737488355328) (hbase : base ≤ w.heap.size) :
    ∃ v' w', (Builtin.append_ #[t, t] ty #[v, .slice (some a) m c]).run P w = .ok v' w' ∧ w'.ownsRow base e size v' (n + m) (xs ++ news) ∧
      ((∃ g cap, v = .slice (some ⟨g, 0, none⟩) n cap ∧ v' = .slice (some ⟨g, 0, none⟩) (n + m) cap ∧ w.grownBy w' (some g)) ∨ (w'.ownsRow w.heap.size e size v' (n + m) (xs ++ news) ∧ w.grownBy w' none)) := by
  have hl1 : news.length = m * size := hl
  have hlen : (xs ++ news).length = (n + m) * size := by rw [List.length_append, hown.1, hl1, Nat.add_mul]
  have up : ∀ {v' : Value} {w' : World}, w'.ownsRow w.heap.size e size v' (n + m) (xs ++ news) → w'.ownsRow base e size v' (n + m) (xs ++ news) := fun h => by
    refine ⟨h.1, ?_⟩
    rcases h.2 with hn | ⟨g, cap, cur, hv, hb', hg, r⟩
    · exact .inl hn
    · exact .inr ⟨g, cap, cur, hv, Nat.le_trans hbase hb', hg, r⟩
  rcases hown.2 with ⟨rfl, rfl⟩ | ⟨g, cap, cur, rfl, hbg, hg, hnc, hcm, hcs, htake⟩
  · have hx : xs = [] := List.eq_nil_of_length_eq_zero (by have := hown.1; simpa using this)
    subst hx
    obtain ⟨v', w', hr, h2, h3, -⟩ := run_append_own (P := P) w w.heap.size t ty e i z size bytes ht hi hz hsize hby hzs hsz (.slice none 0 0) 0 [] (World.ownsRow_nil w _ e size) a m c news hl1 hnews h1 h63 hbytes (Nat.le_refl _)
    exact ⟨v', w', hr, up h2, .inr ⟨h2, h3⟩⟩
  · by_cases hroom : n + m ≤ cap
    · have hfit : n * i.size + news.length ≤ cur.size := by rw [hl, hcs, hsize, ← Nat.add_mul]; exact Nat.mul_le_mul_right _ hroom
      have hr := run_append_room (P := P) w t ty e i ht hi g n cap cur hg a m c news (by rw [hl, hsize]) hnews h1 hroom hfit
      refine ⟨_, _, hr, ⟨hlen, .inr ⟨g, cap, _, rfl, hbg, setRow_heap w g cur _ e _ hg, hroom, hcm, ?_, ?_⟩⟩, .inl ⟨g, cap, rfl, rfl, ⟨rfl, rfl, rfl, by simp, fun k _ hk => setRow_other w g k _ (fun e => hk (by simp [e]))⟩⟩⟩
      · simp only [List.size_toArray, List.length_append, List.length_take, List.length_drop, Array.length_toList, hsize]
        have h5 : n * size ≤ cap * size := Nat.mul_le_mul_right _ hnc
        have h6 : (n + m) * size ≤ cap * size := Nat.mul_le_mul_right _ hroom
        rw [Nat.add_mul] at h6
        rw [hl1, hcs]
        omega
      · rw [hsize, htake, ← hlen]
        exact List.take_left
    · have holds : ∀ j u, xs[j]? = some u → w.cell? ((⟨g, 0, none⟩ : Addr).add j) = some u := hown.cells (g := g) rfl
      obtain ⟨v', w', hrun, r1, r2⟩ := run_append_arg_grows (P := P) w t ty e i z size bytes ht hi hz hsize hby hzs hsz ⟨g, 0, none⟩ n cap xs hown.1 holds a m c news hl1 hnews (by omega) h63 hbytes
      exact ⟨v', w', hrun, up r1, .inr ⟨r1, r2⟩⟩

theorem wpList_append_twos {ops : Array Oper} {rest : List Oper} {o : Oper} {a : Act} {Q : Exit → Act → World → Prop} (hgd : o.guard = none) (s x : Operand) (t : TypeId)
    (ho : o.op = .call { callee := .builtin .append, args := #[s, x], argTypes := #[t, t] })
    (base : Nat) (e : TypeId) (i : TypeInfo) (z : Value) (size bytes : Nat) (ht : P.underlying t = some (.slice e)) (hi : P.info? e = some i) (hz : i.zero = some z)
    (hsize : i.size = size) (hby : i.bytes = bytes) (hzs : z.cells.size = size) (hsz : 0 < size)
    (v : Value) (n : Nat) (xs : List Value) (hs : a.eval s = v) (hown : w.ownsRow base e size v n xs)
    (ad : Addr) (m c : Nat) (news : List Value) (hx : a.eval x = .slice (some ad) m c) (hl : news.length = m * size) (hnews : ∀ j u, news[j]? = some u → w.cell? (ad.add j) = some u) (h1 : ∀ u ∈ news, u.oneCell' = true)
    (hm : 0 < m) (h63 : n + m ≤ maxLen) (hbytes : (n + m) * bytes ≤ 140737488355328) (hbase : base ≤ w.heap.size)
    (h : ∀ v' w', w'.ownsRow base e size v' (n + m) (xs ++ news) →
      ((∃ g cap, v = .slice (some ⟨g, 0, none⟩) n cap ∧ v' = .slice (some ⟨g, 0, none⟩) (n + m) cap ∧ w.grownBy w' (some g)) ∨ (w'.ownsRow w.heap.size e size v' (n + m) (xs ++ news) ∧ w.grownBy w' none)) → wpList P ops Q rest (a.put o.dst v') w') :
    wpList P ops Q (o :: rest) a w := by
  refine wpList_plain hgd fun K hK => ?_
  obtain ⟨v', w', hr, h2, h3⟩ := run_append_twos (P := P) w base t o.type e i z size bytes ht hi hz hsize hby hzs hsz v n xs hown ad m c news hl hnews h1 hm h63 hbytes hbase
  unfold Oper.wp execOp
  simp only [ho, resolve, invoke, builtin, Sem.run_bind, Sem.run_pure, Result.andThen_ok, List.map_toArray, List.map_cons, List.map_nil, hs, hx, hr]
  exact hK _ _ (h v' w' h2 h3)
end
theorem own_prefixs {B B' : Nat} {e : TypeId} {w w' : World} {v0 : Value} {n0 n m g cap size : Nat} {xs0 xs news : List Value} (h0 : w.ownsRow B e size v0 n0 xs0) (hb : v0.ownBlock = some g) (hv : w.ownsRow B' e size (.slice (some ⟨g, 0, none⟩) n cap) n xs) (hn : n0 ≤ n)
    (hv' : w'.ownsRow B' e size (.slice (some ⟨g, 0, none⟩) (n + m) cap) (n + m) (xs ++ news)) : w'.ownsRow B e size v0 n0 xs0 := by
  refine ⟨h0.1, ?_⟩
  rcases h0.2 with ⟨rfl, _⟩ | ⟨g0, cap0, cur, rfl, hbg, hg, hnc, hcm, hcs, ht⟩
  · cases hb
  · cases hb
    rcases hv.2 with ⟨e1, _⟩ | ⟨g1, cap1, cur1, e1, _, hg1, hnc1, hcm1, hcs1, ht1⟩
    · cases e1
    · cases e1
      rw [hg] at hg1
      cases hg1
      rcases hv'.2 with ⟨e2, _⟩ | ⟨g2, cap2, cur2, e2, _, hg2, hnc2, hcm2, hcs2, ht2⟩
      · cases e2
      · cases e2
        refine .inr ⟨_, _, cur2, rfl, hbg, hg2, hnc, hcm, by omega, ?_⟩
        have hx0 : xs0 = xs.take (n0 * size) := by rw [← ht, ← ht1, List.take_take]; congr 1; have := Nat.mul_le_mul_right size hn; omega
        have hxl : xs.length = n * size := hv.1
        have hle : n0 * size ≤ n * size := Nat.mul_le_mul_right _ hn
        have hle2 : n0 * size ≤ (n + m) * size := Nat.mul_le_mul_right _ (by omega)
        rw [hx0, show cur2.toList.take (n0 * size) = (cur2.toList.take ((n + m) * size)).take (n0 * size) by rw [List.take_take]; congr 1; omega, ht2, List.take_append_of_le_length (by omega)]

theorem ownb_slice {B : Nat} {w : World} {x : Value} {Y : List (Int × Bool)} (h : OwnB B w x Y) : ∃ a c, x = .slice a Y.length c := by
  rcases h.2 with ⟨hv, hn⟩ | ⟨g, cap, cur, hv, _⟩
  · exact ⟨none, 0, by rw [hv, hn]⟩
  · exact ⟨_, _, hv⟩
/-- a list of n causes of the call's own whose first c bear their marks -/
def Pme (B : Nat) (w : World) (v : Value) (k n c : Nat) : Prop := ∃ Y : List (Int × Bool), OwnB B w v Y ∧ Y.length = n ∧ ∀ t, t < c → Y.getD t (0, false) = (mrk k t, pr k t)
section
variable {B : Nat} {w w' : World} {v : Value} {k n c : Nat}
theorem Pme.slice (h : Pme B w v k n c) : ∃ a cap, v = .slice a n cap := by
  obtain ⟨Y, ho, rfl, -⟩ := h
  exact ownb_slice ho
theorem Pme.place {i : Nat} (h : Pme B w v k n c) (hi : i < n) : ∃ g cap y z, v = .slice (some ⟨g, 0, none⟩) n cap ∧ B ≤ g ∧ n ≤ cap ∧ w.cell? ⟨g, i * 2, none⟩ = some (.int .i64 y) ∧ w.frozen? ⟨g, i * 2, none⟩ = false ∧ (∀ x, (w.setCell ⟨g, i * 2, none⟩ x).cell? ⟨g, i * 2 + 1, none⟩ = some (.bool z) ∧ (w.setCell ⟨g, i * 2, none⟩ x).frozen? ⟨g, i * 2 + 1, none⟩ = false) := by
  obtain ⟨Y, ho, rfl, -⟩ := h
  obtain ⟨g, cap, e, h1, h2, h3⟩ := row_some ho (by omega)
  subst e
  obtain ⟨y, z, hyz⟩ : ∃ y z, Y[i]? = some (y, z) := ⟨_, _, List.getElem?_eq_getElem hi⟩
  obtain ⟨c1, c2⟩ := btC_at Y i y z hyz
  refine ⟨g, cap, y, z, rfl, (World.ownsRow.lt ho g rfl).1, h1, row_cell ho c1, row_fz ho _, fun x => ?_⟩
  have h5 := own_cell (k := i * 2) ho (by omega) x
  exact ⟨row_cell h5 (by rw [List.getElem?_set_ne (by omega)]; exact c2), row_fz h5 _⟩
theorem Pme.cell {i : Nat} (h : Pme B w v k n c) (hi : i < n) (hc : i < c) : ∃ g cap, v = .slice (some ⟨g, 0, none⟩) n cap ∧ n ≤ cap ∧ w.cell? ⟨g, i * 2, none⟩ = some (.int .i64 (mrk k i)) ∧ w.cell? ⟨g, i * 2 + 1, none⟩ = some (.bool (pr k i)) := by
  obtain ⟨Y, ho, rfl, hm⟩ := h
  obtain ⟨g, cap, e, h1, h2, h3⟩ := row_some ho (by omega)
  subst e
  have hyz : Y[i]? = some (mrk k i, pr k i) := by
    have := hm i hc
    rw [List.getD_eq_getElem?_getD, List.getElem?_eq_getElem hi] at this
    rw [List.getElem?_eq_getElem hi]
    exact congrArg some this
  obtain ⟨c1, c2⟩ := btC_at Y i _ _ hyz
  exact ⟨g, cap, rfl, h1, row_cell ho c1, row_cell ho c2⟩
theorem Pme.store {g cap i : Nat} (h : Pme B w (.slice (some ⟨g, 0, none⟩) n cap) k n i) (hi : i < n) : Pme B ((w.setCell ⟨g, i * 2, none⟩ (.int .i64 (mrk k i))).setCell ⟨g, i * 2 + 1, none⟩ (.bool (pr k i))) (.slice (some ⟨g, 0, none⟩) n cap) k n (i + 1) := by
  obtain ⟨Y, ho, hY, hm⟩ := h
  refine ⟨Y.set i (mrk k i, pr k i), own_storee ho hY hi, by rw [List.length_set]; exact hY, fun t ht => ?_⟩
  by_cases e : t = i
  · subst e
    simp [List.getD_eq_getElem?_getD, List.getElem?_set, hY, hi]
  · have := hm t (by omega)
    simp only [List.getD_eq_getElem?_getD] at this ⊢
    rw [List.getElem?_set_ne (by omega)]
    exact this
theorem Pme.setOther {g i : Nat} (h : Pme B w v k n c) (hne : v.ownBlock ≠ some g) (x : Value) : Pme B (w.setCell ⟨g, i, none⟩ x) v k n c := by
  obtain ⟨Y, ho, hY, hm⟩ := h
  exact ⟨Y, ownsRow_setCell_other ho (a := ⟨g, i, none⟩) hne x, hY, hm⟩
theorem Pme.kept {row : Option Nat} (h : Pme B w v k n c) (hg : w.grownBy w' row) (hne : v.ownBlock = none ∨ v.ownBlock ≠ row) : Pme B w' v k n c := by
  obtain ⟨Y, ho, hY, hm⟩ := h
  exact ⟨Y, World.ownsRow.kept ho hg hne, hY, hm⟩
theorem Pme.less {c' : Nat} (h : Pme B w v k n c) (hc : c' ≤ c) : Pme B w v k n c' := by
  obtain ⟨Y, ho, hY, hm⟩ := h
  exact ⟨Y, ho, hY, fun t ht => hm t (by omega)⟩
theorem Pme.lt (h : Pme B w v k n c) : ∀ b, v.ownBlock = some b → B ≤ b ∧ b < w.heap.size := by
  obtain ⟨Y, ho, hY, hm⟩ := h
  exact World.ownsRow.lt ho
end
end Go.Proofs.Ythmejmnbbbiemaa
