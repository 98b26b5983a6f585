/-
  append onto a row of ints of one's own: in its block, or in a new one.
  KEEP: set on app at below new trans refl start ap kept rd rds mono grown Ap run_append_ap old
-/
import Derived.Test.YtbeaoekbppdlmaaDoorGrow
import Derived.ArgAppend
import Derived.OneCell
import Derived.Laws.OwnMore
import Derived.Handy
set_option linter.unusedSimpArgs false
set_option linter.unusedVariables false
namespace Go.Proofs.YtbeaoekbppdlmaaDoor
open Go Go.RowKit

/-- what an append leaves as it was, and where its row lies -/
structure Ap (w : World) (v : Value) (w' : World) (v' : Value) : Prop where
  grown : w.grownBy w' v.ownBlock
  new : v'.ownBlock = v.ownBlock ∨ ∀ g, v'.ownBlock = some g → w.heap.size ≤ g
  old : v'.ownBlock = v.ownBlock ∨ ∀ k, k < w.heap.size → w'.heap[k]? = w.heap[k]?

section
variable {P : Program} (w : World)
theorem run_append_ap (base : Nat) (t ty e : TypeId) (i : TypeInfo) (z : Value) (bytes : Nat) (ht : P.underlying t = some (.slice e)) (hi : P.info? e = some i) (hz : i.zero = some z)
    (hsize : i.size = 1) (hby : i.bytes = bytes) (hzs : z.cells.size = 1)
    (v : Value) (n : Nat) (xs : List Value) (hown : w.ownsRow base e 1 v n xs)
    (a : Addr) (m c : Nat) (news : List Value) (hl : news.length = m) (hnews : ∀ j u, news[j]? = some u → w.cell? (a.add j) = some u) (h1 : ∀ u ∈ news, u.oneCell' = true)
    (h63 : n + m ≤ maxLen) (hbytes : (n + m) * bytes ≤ 140737488355328) (hbase : base ≤ w.heap.size) :
    ∃ v' w', (Builtin.append_ #[t, t] ty #[v, .slice (some a) m c]).run P w = .ok v' w' ∧ w'.ownsRow base e 1 v' (n + m) (xs ++ news) ∧ Ap w v w' v' := by
  have hl1 : news.length = m * 1 := by omega
  have hlen : (xs ++ news).length = (n + m) * 1 := by rw [List.length_append, hown.1, hl1, Nat.add_mul]
  have up : ∀ {v' : Value} {w' : World}, w'.ownsRow w.heap.size e 1 v' (n + m) (xs ++ news) → w'.ownsRow base e 1 v' (n + m) (xs ++ news) := fun h => by
    refine ⟨h.1, ?_⟩
    rcases h.2 with hn | ⟨g, cap, cur, hv, hb', hg, r⟩
    · exact .inl hn
    · exact .inr ⟨g, cap, cur, hv, Nat.le_trans hbase hb', hg, r⟩
  have fresh : ∀ {v' : Value} {w' : World}, w'.ownsRow w.heap.size e 1 v' (n + m) (xs ++ news) → ∀ g, v'.ownBlock = some g → w.heap.size ≤ g := fun h g hg => (h.lt g hg).1
  rcases hown.2 with ⟨rfl, rfl⟩ | ⟨g, cap, cur, rfl, hbg, hg, hnc, hcm, hcs, htake⟩
  · have hx : xs = [] := List.eq_nil_of_length_eq_zero (by simpa using hown.1)
    subst hx
    obtain ⟨v', w', hr, h2, h3, -⟩ := run_append_own (P := P) w w.heap.size t ty e i z 1 bytes ht hi hz hsize hby hzs (by omega) (.slice none 0 0) 0 [] (World.ownsRow_nil w _ e 1) a m c news hl1 hnews h1 h63 hbytes (Nat.le_refl _)
    exact ⟨v', w', hr, up h2, h3, .inr (fresh h2), .inr fun k hk => h3.block k hk (by simp [Value.ownBlock])⟩
  · by_cases hroom : n + m ≤ cap
    · have hfit : n * i.size + news.length ≤ cur.size := by rw [hl, hcs, hsize]; omega
      have hr := run_append_room (P := P) w t ty e i ht hi g n cap cur hg a m c news (by rw [hl, hsize]; omega) hnews h1 hroom hfit
      refine ⟨_, _, hr, ⟨hlen, .inr ⟨g, cap, _, rfl, hbg, setRow_heap w g cur _ e _ hg, hroom, hcm, ?_, ?_⟩⟩, ⟨rfl, rfl, rfl, by simp, fun k _ hk => setRow_other w g k _ (fun e => hk (by simp [e, Value.ownBlock]))⟩, .inl rfl, .inl rfl⟩
      · simp only [List.size_toArray, List.length_append, List.length_take, List.length_drop, Array.length_toList, hsize]
        omega
      · rw [hsize, htake, ← hlen]
        exact List.take_left
    · have holds : ∀ j u, xs[j]? = some u → w.cell? ((⟨g, 0, none⟩ : Addr).add j) = some u := hown.cells (g := g) rfl
      obtain ⟨v', w', hrun, r1, r2⟩ := run_append_arg_grows (P := P) w t ty e i z 1 bytes ht hi hz hsize hby hzs (by omega) ⟨g, 0, none⟩ n cap xs hown.1 holds a m c news hl1 hnews (by omega) h63 hbytes
      exact ⟨v', w', hrun, up r1, ⟨r2.os, r2.tape, r2.output, r2.size, fun k hk _ => r2.block k hk (by simp)⟩, .inr (fresh r1), .inr fun k hk => r2.block k hk (by simp)⟩
end

/-- append of a list that is read -/
theorem run_app_rd {B : Nat} {w : World} {v u : Value} {ws zs : List Int} (ty : TypeId) (ho : Own B w v ws) (hr : Rd w u zs) (hl : (ws.length + zs.length) * 8 ≤ 140737488355328) (hB : B ≤ w.heap.size) :
    ∃ v' w', (Builtin.append_ #[46, 46] ty #[v, u]).run Tryd.prog w = .ok v' w' ∧ Own B w' v' (ws ++ zs) ∧ Ap w v w' v' := by
  obtain ⟨i0, hi, hz0, hz1, hz2⟩ := info_parts Tryd.info3
  have hgo : ∀ (a : Addr) (c : Nat), u = .slice (some a) zs.length c → (∀ j, j < zs.length → w.cell? (a.add j) = some (.int .i64 (zs.getD j 0))) → ∃ v' w', (Builtin.append_ #[46, 46] ty #[v, u]).run Tryd.prog w = .ok v' w' ∧ Own B w' v' (ws ++ zs) ∧ Ap w v w' v' := by
    rintro a c rfl hcell
    obtain ⟨v', w', h1, h2, h3⟩ := run_append_ap (P := Tryd.prog) w B 46 ty 3 i0 (.int .i64 0) 8 Tryd.underlying46 hi hz0 hz1 hz2 rfl v ws.length (ws.map (Value.int .i64)) ho a zs.length c (zs.map (Value.int .i64)) (by simp)
      (fun j x hj => by
        have hj' : j < zs.length := by
          have := (List.getElem?_eq_some_iff.1 hj).1; simpa using this
        rw [hcell j hj', ← hj]
        simp [List.getD_eq_getElem?_getD, hj']) (by simp [Value.oneCell']) (by unfold maxLen; omega) (by omega) hB
    refine ⟨v', w', h1, ?_, h3⟩
    unfold Own
    rw [List.length_append, List.map_append]; exact h2
  rcases hr.cases with ⟨rfl, a, c, rfl, hcm, hcn⟩ | ⟨b, off, c, rfl, hpos, hc, hm, hb, hcell⟩
  · cases a with
    | none =>
      obtain rfl := hcn rfl
      refine ⟨v, w, run_append_owned_none (P := Tryd.prog) w B 46 ty 3 i0 1 Tryd.underlying46 hi v ws.length _ ho, by simpa using ho, ⟨rfl, rfl, rfl, Nat.le_refl _, fun _ _ _ => rfl⟩, .inl rfl, .inl rfl⟩
    | some a => exact hgo a c rfl (fun j hj => by simp at hj)
  · exact hgo ⟨b, off, none⟩ c rfl (fun j hj => by rw [Addr.add_lit]; exact hcell j hj)

/-- at the operation -/
theorem wpList_app_rd {ops : Array Oper} {rest : List Oper} {o : Oper} {a : Act} {Q : Exit → Act → World → Prop} {w : World} (hgd : o.guard = none) (s x : Operand)
    (hop : o.op = .call { callee := .builtin .append, args := #[s, x], argTypes := #[46, 46] })
    (B : Nat) (v u : Value) (ws zs : List Int) (hs : a.eval s = v) (hx : a.eval x = u) (ho : Own B w v ws) (hr : Rd w u zs) (hl : (ws.length + zs.length) * 8 ≤ 140737488355328) (hB : B ≤ w.heap.size)
    (h : ∀ v' w', Own B w' v' (ws ++ zs) → Ap w v w' v' → wpList Tryd.prog ops Q rest (a.put o.dst v') w') :
    wpList Tryd.prog ops Q (o :: rest) a w := by
  refine wpList_plain hgd fun K hK => ?_
  obtain ⟨v', w', hrun, h2, h3⟩ := run_app_rd o.type ho hr hl hB
  unfold Oper.wp execOp
  simp only [hop, resolve, invoke, builtin, Sem.run_bind, Sem.run_pure, Result.andThen_ok, List.map_toArray, List.map_cons, List.map_nil, hs, hx, hrun]
  exact hK _ _ (h v' w' h2 h3)
theorem step_app_rd {ops : Array Oper} {o : Oper} {a : Act} {w : World} {K : Act → World → Prop} {Q : Exit → Act → World → Prop} {E : Prop}
    (hg : o.guard = none) (s x : Operand) (hop : o.op = Op.call { callee := Callee.builtin Builtin.append, args := #[s, x], argTypes := #[46, 46] })
    (B : Nat) (v u : Value) (ws zs : List Int) (hs : a.eval s = v) (hx : a.eval x = u) (ho : Own B w v ws) (hr : Rd w u zs) (hl : (ws.length + zs.length) * 8 ≤ 140737488355328) (hB : B ≤ w.heap.size)
    (hK : ∀ v' w', Own B w' v' (ws ++ zs) → Ap w v w' v' → K (a.put o.dst v') w') :
    if Region.wanted o (yielded ops a.tmps) = true then Oper.wp Tryd.prog o a w K Q else E := by
  have hw : Region.wanted o (yielded ops a.tmps) = true := by simp [Region.wanted, hg]
  rw [if_pos hw]
  obtain ⟨v', w', hrun, r1, r2⟩ := run_app_rd o.type ho hr hl hB
  unfold Oper.wp
  simp [execOp, hop, resolve, invoke, builtin, hs, hx, hrun, Result.andThen]
  exact hK v' w' r1 r2

end Go.Proofs.YtbeaoekbppdlmaaDoor
