/-
  depotkit.ApartClauses, walked.
  KEEP: len set on app at below new trans refl start ap kept rd rds mono row push put step side drew drewN mark weaken less store slice place cell lt prefix setOther own nil add none
-/
import Derived.Test.YtlbpdiemanhfkaaDoorAparRW
import Derived.Test.YtlbpdiemanhfkaaDoorAppK
set_option linter.unusedSimpArgs false
set_option linter.unusedVariables false
namespace Go.Proofs.YtlbpdiemanhfkaaDoor
open Go Go.RowKit Go.Shelf

/-- a row of one's own is put behind another -/
theorem run_append_rows {P : Program} (w : World) (base base' : Nat) (t ty e : TypeId) (i : TypeInfo) (z : Value) (bytes : Nat) (ht : P.underlying t = some (.slice e)) (hi : P.info? e = some i) (hz : i.zero = some z)
    (hsize : i.size = 1) (hby : i.bytes = bytes) (hzs : z.cells.size = 1)
    (v y : Value) (n m : Nat) (xs ys : List Value) (hown : w.ownsRow base e 1 v n xs) (hy : w.ownsRow base' e 1 y m ys) (h1 : ∀ u ∈ ys, u.oneCell' = true)
    (h63 : n + m ≤ maxLen) (hbytes : (n + m) * bytes ≤ 140737488355328) (hbase : base ≤ w.heap.size) :
    ∃ v' w', (Builtin.append_ #[t, t] ty #[v, y]).run P w = .ok v' w' ∧ w'.ownsRow base e 1 v' (n + m) (xs ++ ys) ∧ Ap w v w' v' := by
  rcases hy.2 with ⟨rfl, rfl⟩ | ⟨g, cap, cur, rfl, hbg, hg, hnc, hcm, hcs, htake⟩
  · have hx : ys = [] := List.eq_nil_of_length_eq_zero (by simpa using hy.1)
    subst hx
    refine ⟨v, w, run_append_owned_none (P := P) w base t ty e i 1 ht hi v n xs hown, by simpa using hown, ⟨rfl, rfl, rfl, Nat.le_refl _, fun _ _ _ => rfl⟩, .inl rfl⟩
  · exact run_append_apk (P := P) w base t ty e i z 1 bytes ht hi hz hsize hby hzs (by decide) v n xs hown ⟨g, 0, none⟩ m cap ys hy.1 (hy.cells (g := g) rfl) h1 h63 hbytes hbase
theorem wpList_append_rows {P : Program} {w : World} {ops : Array Oper} {rest : List Oper} {o : Oper} {a : Act} {Q : Exit → Act → World → Prop} (hgd : o.guard = none) (s x : Operand) (t : TypeId)
    (hop : o.op = .call { callee := .builtin .append, args := #[s, x], argTypes := #[t, t] })
    (base base' : Nat) (e : TypeId) (i : TypeInfo) (z : Value) (bytes : Nat) (ht : P.underlying t = some (.slice e)) (hi : P.info? e = some i) (hz : i.zero = some z)
    (hsize : i.size = 1) (hby : i.bytes = bytes) (hzs : z.cells.size = 1)
    (v y : Value) (n m : Nat) (xs ys : List Value) (hs : a.eval s = v) (hx : a.eval x = y) (hown : w.ownsRow base e 1 v n xs) (hy : w.ownsRow base' e 1 y m ys) (h1 : ∀ u ∈ ys, u.oneCell' = true)
    (h63 : n + m ≤ maxLen) (hbytes : (n + m) * bytes ≤ 140737488355328) (hbase : base ≤ w.heap.size)
    (h : ∀ v' w', w'.ownsRow base e 1 v' (n + m) (xs ++ ys) → Ap w v w' v' → wpList P ops Q rest (a.put o.dst v') w') :
    wpList P ops Q (o :: rest) a w := by
  refine wpList_plain hgd fun K hK => ?_
  obtain ⟨v', w', hr, h2, h3⟩ := run_append_rows (P := P) w base base' t o.type e i z bytes ht hi hz hsize hby hzs v y n m xs ys hown hy h1 h63 hbytes hbase
  unfold Oper.wp execOp
  simp only [hop, resolve, invoke, builtin, Sem.run_bind, Sem.run_pure, Result.andThen_ok, List.map_toArray, List.map_cons, List.map_nil, hs, hx, hr]
  exact hK _ _ (h v' w' h2 h3)
theorem apart_sym {α : Type} {f : α → Option Nat} {L : List α} (h : L.Pairwise (fun x y => f x = none ∨ f x ≠ f y)) : ∀ (i j : Nat) (hi : i < L.length) (hj : j < L.length), i ≠ j → f L[i] = none ∨ f L[i] ≠ f L[j] := fun i j hi hj hne => by
  have hp := List.pairwise_iff_getElem.1 h
  rcases Nat.lt_or_gt_of_ne hne with h1 | h1
  · exact hp i j hi hj h1
  · rcases hp j i hj hi h1 with h2 | h2
    · cases e : f L[i] with
      | none => exact .inl rfl
      | some b => exact .inr (by rw [h2]; simp)
    · exact .inr (Ne.symm h2)
theorem range_getD {α : Type} (L : List α) (d : α) {β : Type} (f : α → β) : (List.range L.length).map (fun j => f (L.getD j d)) = L.map f := by
  apply List.ext_getElem?
  intro i
  by_cases h : i < L.length
  · rw [List.getElem?_map, List.getElem?_range h, List.getElem?_map, List.getElem?_eq_getElem h]
    simp [List.getD_eq_getElem?_getD, h]
  · rw [List.getElem?_eq_none (by simpa using h), List.getElem?_eq_none (by simpa using h)]
theorem flat_len {F : List (Value × List Cls)} {j : Nat} (hj : j < F.length) : (F[j]).2.length ≤ (F.flatMap Prod.snd).length := by
  have h7 : F.flatMap Prod.snd = (F.take j).flatMap Prod.snd ++ (F.drop j).flatMap Prod.snd := by rw [← List.flatMap_append, List.take_append_drop]
  rw [h7, List.drop_eq_getElem_cons hj, List.flatMap_cons, List.length_append, List.length_append]
  omega
theorem cls_one {B : Nat} {w : World} {s : Value} {L : List Cls} (h : OwnR B w s L) : ∀ u ∈ L.map Prod.fst, u.oneCell' = true := fun u hu => by
  obtain ⟨x, hx, rfl⟩ := List.mem_map.1 hu
  obtain ⟨a, c, e⟩ := own_slice (h.own x hx)
  rw [e]; rfl
/-- formulas that lie in a row: each its number of variables and its clauses -/
def fcells (F : List (Int × Value × List Cls)) : List Value := F.flatMap fun x => [.int .i64 x.1, x.2.1]
theorem fcells_at : ∀ (F : List (Int × Value × List Cls)) (j : Nat) (hj : j < F.length), (fcells F)[j * 2 + 1]? = some (F[j]).2.1
  | x :: r, 0, _ => rfl
  | x :: r, j + 1, hj => by
    have := fcells_at r j (by simpa using hj)
    have e : fcells (x :: r) = [.int .i64 x.1, x.2.1] ++ fcells r := rfl
    rw [e, List.getElem?_append_right (by simp; omega)]
    simpa [show (j + 1) * 2 + 1 - 2 = j * 2 + 1 by omega] using this
end Go.Proofs.YtlbpdiemanhfkaaDoor
