/-
  trail: open, lay.
  KEEP: set on app at below new trans refl start ap kept rd rds mono
-/
import Derived.Test.YtjcgfigbbbefcaaTrR
set_option linter.unusedSimpArgs false
set_option linter.unusedVariables false
namespace Go.Proofs.Ytjcgfigbbbefcaa
open Go Go.RowKit

theorem trOpen_any (b : Nat) (s : Sl) (n : Nat) (A B C : List Int) (D : List (Nat × Int)) (k : Nat) (w : World) (h : Tq w b s n A B C D) (hk : k < n) (hn : n ≤ 1048576) :
    Calls Try.prog 45 #[.pointer (some ⟨b, 0, none⟩), .int .i64 ((k : Int) + 1)] w fun e w' => e = .returned (.tuple #[]) ∧ Tq w' b s n (A.set k 0) ((B.set (k * 2) 0).set (k * 2 + 1) 0) C D ∧ Mv w b s w' s := by
  obtain ⟨g, c, e, hc1, hc2, hg⟩ := row_some h.v (by omega)
  obtain ⟨g2, c2, e2, hc3, hc4, hg2⟩ := row_some h.f (by omega)
  obtain ⟨q1, m1⟩ := h.setV e hk 0
  obtain ⟨q2, m2⟩ := q1.setF e2 (k := k * 2) (by omega) 0
  obtain ⟨q3, m3⟩ := q2.setF e2 (k := k * 2 + 1) (by omega) 0
  have HF := q3
  have HM := (m1.trans m2).trans m3
  have hv := h.v
  have hf1 := q1.f
  have hf2 := q2.f
  rw [e] at hv
  rw [e2] at hf1 hf2
  have lA : A.length = n := by have := h.v.1; simpa using this
  have lB : B.length = n * 2 := by have := h.f.1; simpa using this
  have v0 := row_cell hv (j := k) (x := .int .i8 (A[k]'(by omega))) (by simp [lA, hk])
  have z0 := row_fz hv k
  have f0 := row_cell hf1 (j := k * 2) (x := .int .i64 (B[k * 2]'(by omega))) (by rw [List.getElem?_map, List.getElem?_eq_getElem (by omega)]; rfl)
  have f1 := row_cell hf2 (j := k * 2 + 1) (x := .int .i64 (B[k * 2 + 1]'(by omega))) (by rw [List.getElem?_map, List.getElem?_set_ne (by omega), List.getElem?_eq_getElem (by omega)]; rfl)
  have z1 := row_fz hf1 (k * 2)
  have z2 := row_fz hf2 (k * 2 + 1)
  have c0 := h.box.c0
  have c1 := q1.box.c1
  rw [e] at c0
  rw [e2] at c1
  generalize A[k]'(by omega) = x0 at *
  generalize B[k * 2]'(by omega) = x1 at *
  generalize B[k * 2 + 1]'(by omega) = x2 at *
  have HF : Hid (_ ∧ _) := ⟨HF, HM⟩
  clear h q1 m1 q2 m2 q3 m3 hv hf1 hf2 lA lB HM e e2
  go_enter Try.func45, Try.ntmps45
  go_wp2
  go_end0
  exact ⟨rfl, HF.out.1, HF.out.2⟩

section
variable {P : Program} (w : World)
/-- append onto a row of structs of one's own: in its block, or in a new one -/
theorem run_append_apk (base : Nat) (t ty e : TypeId) (i : TypeInfo) (z : Value) (size bytes : Nat) (ht : P.underlying t = some (.slice e)) (hi : P.info? e = some i) (hz : i.zero = some z)
    (hsize : i.size = size) (hby : i.bytes = bytes) (hzs : z.cells.size = size) (hsz : 0 < size)
    (v : Value) (n : Nat) (xs : List Value) (hown : w.ownsRow base e size v n xs)
    (a : Addr) (m c : Nat) (news : List Value) (hl : news.length = m * size) (hnews : ∀ j u, news[j]? = some u → w.cell? (a.add j) = some u) (h1 : ∀ u ∈ news, u.oneCell' = true)
    (h63 : n + m ≤ maxLen) (hbytes : (n + m) * bytes ≤ 140737488355328) (hbase : base ≤ w.heap.size) :
    ∃ v' w', (Builtin.append_ #[t, t] ty #[v, .slice (some a) m c]).run P w = .ok v' w' ∧ w'.ownsRow base e size v' (n + m) (xs ++ news) ∧ Ap w v w' v' := by
  have hlen : (xs ++ news).length = (n + m) * size := by rw [List.length_append, hown.1, hl, Nat.add_mul]
  have up : ∀ {v' : Value} {w' : World}, w'.ownsRow w.heap.size e size v' (n + m) (xs ++ news) → w'.ownsRow base e size v' (n + m) (xs ++ news) := fun h => by
    refine ⟨h.1, ?_⟩
    rcases h.2 with hn | ⟨g, cap, cur, hv, hb', hg, r⟩
    · exact .inl hn
    · exact .inr ⟨g, cap, cur, hv, Nat.le_trans hbase hb', hg, r⟩
  have fresh : ∀ {v' : Value} {w' : World}, w'.ownsRow w.heap.size e size v' (n + m) (xs ++ news) → ∀ g, v'.ownBlock = some g → w.heap.size ≤ g := fun h g hg => (h.lt g hg).1
  rcases hown.2 with ⟨rfl, rfl⟩ | ⟨g, cap, cur, rfl, hbg, hg, hnc, hcm, hcs, htake⟩
  · have hx : xs = [] := List.eq_nil_of_length_eq_zero (by simpa using hown.1)
    subst hx
    obtain ⟨v', w', hr, h2, h3, -⟩ := run_append_own (P := P) w w.heap.size t ty e i z size bytes ht hi hz hsize hby hzs hsz (.slice none 0 0) 0 [] (World.ownsRow_nil w _ e size) a m c news hl hnews h1 h63 hbytes (Nat.le_refl _)
    exact ⟨v', w', hr, up h2, h3, .inr (fresh h2)⟩
  · by_cases hroom : n + m ≤ cap
    · have hmul : (n + m) * size ≤ cap * size := Nat.mul_le_mul_right _ hroom
      have hfit : n * i.size + news.length ≤ cur.size := by rw [hl, hcs, hsize, ← Nat.add_mul]; exact hmul
      have hr := run_append_room (P := P) w t ty e i ht hi g n cap cur hg a m c news (by rw [hl, hsize]) hnews h1 hroom hfit
      refine ⟨_, _, hr, ⟨hlen, .inr ⟨g, cap, _, rfl, hbg, setRow_heap w g cur _ e _ hg, hroom, hcm, ?_, ?_⟩⟩, ⟨rfl, rfl, rfl, by simp, fun k _ hk => setRow_other w g k _ (fun e => hk (by simp [e, Value.ownBlock]))⟩, .inl rfl⟩
      · simp only [List.size_toArray, List.length_append, List.length_take, List.length_drop, Array.length_toList, hsize]
        rw [hsize] at hfit
        have : n * size ≤ cur.size := by omega
        rw [← hcs]; omega
      · rw [hsize, htake, ← hlen]
        exact List.take_left
    · have holds : ∀ j u, xs[j]? = some u → w.cell? ((⟨g, 0, none⟩ : Addr).add j) = some u := hown.cells (g := g) rfl
      obtain ⟨v', w', hrun, r1, r2⟩ := run_append_arg_grows (P := P) w t ty e i z size bytes ht hi hz hsize hby hzs hsz ⟨g, 0, none⟩ n cap xs hown.1 holds a m c news hl hnews (by omega) h63 hbytes
      exact ⟨v', w', hrun, up r1, ⟨r2.os, r2.tape, r2.output, r2.size, fun k hk _ => r2.block k hk (by simp)⟩, .inr (fresh r1)⟩
end
theorem step_append_apk {P : Program} {ops : Array Oper} {o : Oper} {a : Act} {w : World} {K : Act → World → Prop} {Q : Exit → Act → World → Prop} {E : Prop}
    (hg : o.guard = none) (s x : Operand) (t : TypeId) (hop : o.op = Op.call { callee := Callee.builtin Builtin.append, args := #[s, x], argTypes := #[t, t] })
    (base : Nat) (e : TypeId) (i : TypeInfo) (z : Value) (size bytes : Nat) (h1 : P.underlying t = some (.slice e)) (h2 : P.info? e = some i) (h3 : i.zero = some z) (h4 : i.size = size) (h5 : i.bytes = bytes) (h6 : z.cells.size = size) (h7 : 0 < size)
    (v : Value) (n : Nat) (xs : List Value) (hs : a.eval s = v) (hown : w.ownsRow base e size v n xs)
    (ad : Addr) (m c : Nat) (news : List Value) (hx : a.eval x = .slice (some ad) m c) (hn : news.length = m * size) (hc : ∀ j u, news[j]? = some u → w.cell? (ad.add j) = some u) (h1c : ∀ u ∈ news, u.oneCell' = true)
    (b1 : n + m ≤ maxLen) (b2 : (n + m) * bytes ≤ 140737488355328) (hbase : base ≤ w.heap.size)
    (hK : ∀ v' w', w'.ownsRow base e size v' (n + m) (xs ++ news) → Ap w v w' v' → K (a.put o.dst v') w') :
    if Region.wanted o (yielded ops a.tmps) = true then Oper.wp P o a w K Q else E := by
  have hw : Region.wanted o (yielded ops a.tmps) = true := by simp [Region.wanted, hg]
  rw [if_pos hw]
  obtain ⟨v', w', hrun, r1, r2⟩ := run_append_apk (P := P) w base t o.type e i z size bytes h1 h2 h3 h4 h5 h6 h7 v n xs hown ad m c news hn hc h1c b1 b2 hbase
  unfold Oper.wp
  simp [execOp, hop, resolve, invoke, builtin, hs, hx, hrun, Result.andThen]
  exact hK v' w' r1 r2

theorem Mv.ap {w w' : World} {b : Nat} {s : Sl} {x : Int} (hr : Below w.heap.size w w') : Mv w b s w' s := Mv.below hr
theorem rd_one' (w : World) (z : Int) : Rd (w.alloc (.cells #[.int .i64 z] 3)) (.slice (some ⟨w.heap.size, 0, none⟩) 1 1) [z] := by
  have hh := World.alloc_heap_new w (.cells #[.int .i64 z] 3)
  refine ⟨by simp, some ⟨w.heap.size, 0, none⟩, 1, rfl, by simp, by unfold maxLen; omega, by simp, fun _ => ⟨w.heap.size, 0, rfl, by rw [World.size_alloc]; omega, fun j hj => ?_⟩⟩
  have : j = 0 := by simpa using hj
  subst this
  show (match (w.alloc (.cells #[.int .i64 z] 3)).heap[w.heap.size]? with | some (Obj.cells c elem frozen) => c[0 + 0]? | x => none) = _
  rw [hh]; rfl

theorem trLay_any (b : Nat) (s : Sl) (n : Nat) (A B C : List Int) (D : List (Nat × Int)) (l r : Int) (w : World) (h : Tq w b s n A B C D) (hl : litN n l = true) (hn : n ≤ 1048576) (hC : C.length ≤ 1048576) (hD0 : 0 < D.length) (hD : D.length ≤ 2000000) :
    Calls Try.prog 51 #[.pointer (some ⟨b, 0, none⟩), .int .i64 l, .int .i64 r] w fun e w' => e = .returned (.tuple #[]) ∧
      ∃ s', Tq w' b s' n (A.set (l.natAbs - 1) (sg l)) ((B.set ((l.natAbs - 1) * 2) ((D.length : Int) - 1)).set ((l.natAbs - 1) * 2 + 1) r) (C ++ [l]) D ∧ Mv w b s w' s' := by
  obtain ⟨e1, e2, e3⟩ := varOf_abs hn hl
  obtain ⟨k, hk1⟩ : ∃ k : Nat, l.natAbs = k + 1 := ⟨l.natAbs - 1, by omega⟩
  have HV : Hid (varOf l = (k : Int) + 1) := by show _ = _; omega
  have e5 : l.natAbs - 1 = k := by omega
  rw [e5]
  have hk : k < n := by omega
  have hl0 : l ≠ 0 := by have := of_decide_eq_true hl; exact this.1
  obtain ⟨g, c, ev, hc1, hc2, hg⟩ := row_some h.v (by omega)
  obtain ⟨g2, c2, ef, hc3, hc4, hg2⟩ := row_some h.f (by omega)
  have hv := h.v
  rw [ev] at hv
  have lA : A.length = n := by have := h.v.1; simpa using this
  have lB : B.length = n * 2 := by have := h.f.1; simpa using this
  have v0 := row_cell hv (j := k) (x := .int .i8 (A[k]'(by omega))) (by simp [lA, hk])
  have z0 := row_fz hv k
  have c0 := h.box.c0
  rw [ev] at c0
  generalize A[k]'(by omega) = x0 at *
  have hsg : l < 0 ∧ sg l = -1 ∨ 0 < l ∧ sg l = 1 := by unfold sg; split <;> omega
  -- behind the value
  have REST : Hid (∀ w2 : World, Tq w2 b s n (A.set k (sg l)) B C D → Mv w b s w2 s → True) := fun _ _ _ => trivial
  have HQ1 : Hid (∀ z, Tq (w.setCell ⟨g, k, none⟩ (.int .i8 z)) b s n (A.set k z) B C D ∧ Mv w b s (w.setCell ⟨g, k, none⟩ (.int .i8 z)) s) := fun z => h.setV ev hk z
  have HLB : Hid (B.length = n * 2) := lB
  have HEF : Hid (s.F = .slice (some ⟨g2, 0, none⟩) n c2) := ef
  have HC : Hid (C.length ≤ 1048576) := hC
  have HDD : Hid (0 < D.length ∧ D.length ≤ 2000000) := ⟨hD0, hD⟩
  clear h hv ev lA lB REST hl e1 e2 e3 e5 hk1 ef hC hD0 hD
  rcases hsg with ⟨hs1, hs2⟩ | ⟨hs1, hs2⟩
  · rw [hs2]
    go_enter Try.func51, Try.ntmps51
    go_wp2_with fail
    refine (var_any _ _).mono ?_
    rintro e w' ⟨rfl, rfl⟩
    rw [HV.out]
    go_wp2_with fail
    obtain ⟨q1, m1⟩ := HQ1.out (-1)
    generalize w'.setCell ⟨g, k, none⟩ (.int .i8 (-1)) = w1 at *
    have hf1 := q1.f
    rw [HEF.out] at hf1
    have f0 := row_cell hf1 (j := k * 2) (x := .int .i64 (B[k * 2]'(by have := HLB.out; omega))) (by rw [List.getElem?_map, List.getElem?_eq_getElem (by have := HLB.out; omega)]; rfl)
    have f1 := row_cell hf1 (j := k * 2 + 1) (x := .int .i64 (B[k * 2 + 1]'(by have := HLB.out; omega))) (by rw [List.getElem?_map, List.getElem?_eq_getElem (by have := HLB.out; omega)]; rfl)
    have z1 := row_fz hf1 (k * 2)
    have z2 := row_fz hf1 (k * 2 + 1)
    generalize B[k * 2]'(by have := HLB.out; omega) = x1 at *
    generalize B[k * 2 + 1]'(by have := HLB.out; omega) = x2 at *
    have c1 := q1.box.c1
    rw [HEF.out] at c1
    have HLv : Hid (∀ W : World, Below w1.heap.size w1 W → Calls Try.prog 17 #[.pointer (some ⟨b, 0, none⟩)] W fun e w' => e = .returned (.int .i64 ((D.length : Int) - 1)) ∧ w' = W) := fun W hW => trLevel_any b s n _ _ _ D W (q1.below hW) HDD.out.1 HDD.out.2
    have HQ2 : Hid (∀ W : World, Below w1.heap.size w1 W → Tq ((W.setCell ⟨g2, k * 2, none⟩ (.int .i64 ((D.length : Int) - 1))).setCell ⟨g2, k * 2 + 1, none⟩ (.int .i64 r)) b s n (A.set k (-1)) ((B.set (k * 2) ((D.length : Int) - 1)).set (k * 2 + 1) r) C D ∧ Mv w1 b s ((W.setCell ⟨g2, k * 2, none⟩ (.int .i64 ((D.length : Int) - 1))).setCell ⟨g2, k * 2 + 1, none⟩ (.int .i64 r)) s) := fun W hW => by
      obtain ⟨p1, o1⟩ := (q1.below hW).setF HEF.out (k := k * 2) (by omega) ((D.length : Int) - 1)
      obtain ⟨p2, o2⟩ := p1.setF HEF.out (k := k * 2 + 1) (by omega) r
      exact ⟨p2, ((Mv.below hW).trans o1).trans o2⟩
    have HM1 : Hid (Mv w' b s w1 s) := m1
    clear q1 m1 HQ1 hf1 v0 z0 c0
    generalize hlev : ((D.length : Int) - 1) = lev at *
    have HLEV : Hid (((D.length : Int) - 1) = lev) := hlev
    clear hlev
    have hwr : IntKind.i64.wrap (k : Int) = k := by rw [IntKind.wrap_i64]; omega
    go_region_law (go_simp; go_at_call 17; refine (HLv.out _ (by first | exact Below.refl _ _ | exact (Below.refl _ _).drew)).mono ?_; intro e w9 hh; rw [hh.1, hh.2]; clear hh e w9; dsimp only)
    all_goals
      obtain ⟨q2, m2⟩ := HQ2.out _ (Below.refl w1.heap.size w1)
      have q2 := q2.below (Below.refl _ _).drew
      have m2 := m2.trans (Mv.below (Below.refl _ _).drew)
      generalize ((w1.setCell ⟨g2, k * 2, none⟩ (.int .i64 lev)).setCell ⟨g2, k * 2 + 1, none⟩ (.int .i64 r)).drew = w2 at *
      have q3 := q2.below (below_box w2 (.cells #[.int .i64 l] 3))
      have HM2 : Hid (Mv w' b s (w2.alloc (.cells #[.int .i64 l] 3)) s) := (HM1.out.trans m2).trans (Mv.below (below_box w2 (.cells #[.int .i64 l] 3)))
      have HR1 : Hid (Rd (w2.alloc (.cells #[.int .i64 l] 3)) (.slice (some ⟨w2.heap.size, 0, none⟩) 1 1) [l]) := rd_one' w2 l
      have HQ3 : Hid (Tq (w2.alloc (.cells #[.int .i64 l] 3)) b s n _ _ C D) := q3
      have k2 := q2.box.c2
      clear q2 q3 m2 HQ2 HLv f0 f1 z1 z2 c1 HM1
      generalize hsR : s.R = sR at *
      go_wp2_with (at_builtin; refine wpList_app_rd rfl _ _ rfl 0 sR (.slice (some ⟨w2.heap.size, 0, none⟩) 1 1) C [l] rfl rfl (by rw [← hsR]; exact HQ3.out.r) HR1.out (by have := HC.out; simp; omega) (Nat.zero_le _) ?_; intro v8 w8 own8 ap8; obtain ⟨a8, c8, hv8⟩ := own_form own8; simp only [List.length_append, List.length_cons, List.length_nil, Nat.zero_add] at hv8; subst hv8; have A8 := HQ3.out.putR (by rw [hsR]; exact ap8.grown) (by rw [hsR]; exact ap8.new) own8; have p0 := (HQ3.out.box.kept ap8.grown (by rw [← hsR]; exact HQ3.out.box.not_row (by decide) HQ3.out.r)).c2; have p1 := (HQ3.out.box.kept ap8.grown (by rw [← hsR]; exact HQ3.out.box.not_row (by decide) HQ3.out.r)).fz 2; have F8 : Hid (_ ∧ _) := A8; clear A8 own8 ap8)
      go_end0
      exact ⟨rfl, _, by rw [HLEV.out]; exact F8.out.1, HM2.out.trans F8.out.2⟩
  · rw [hs2]
    go_enter Try.func51, Try.ntmps51
    go_wp2_with fail
    refine (var_any _ _).mono ?_
    rintro e w' ⟨rfl, rfl⟩
    rw [HV.out]
    go_wp2_with fail
    obtain ⟨q1, m1⟩ := HQ1.out (1)
    generalize w'.setCell ⟨g, k, none⟩ (.int .i8 (1)) = w1 at *
    have hf1 := q1.f
    rw [HEF.out] at hf1
    have f0 := row_cell hf1 (j := k * 2) (x := .int .i64 (B[k * 2]'(by have := HLB.out; omega))) (by rw [List.getElem?_map, List.getElem?_eq_getElem (by have := HLB.out; omega)]; rfl)
    have f1 := row_cell hf1 (j := k * 2 + 1) (x := .int .i64 (B[k * 2 + 1]'(by have := HLB.out; omega))) (by rw [List.getElem?_map, List.getElem?_eq_getElem (by have := HLB.out; omega)]; rfl)
    have z1 := row_fz hf1 (k * 2)
    have z2 := row_fz hf1 (k * 2 + 1)
    generalize B[k * 2]'(by have := HLB.out; omega) = x1 at *
    generalize B[k * 2 + 1]'(by have := HLB.out; omega) = x2 at *
    have c1 := q1.box.c1
    rw [HEF.out] at c1
    have HLv : Hid (∀ W : World, Below w1.heap.size w1 W → Calls Try.prog 17 #[.pointer (some ⟨b, 0, none⟩)] W fun e w' => e = .returned (.int .i64 ((D.length : Int) - 1)) ∧ w' = W) := fun W hW => trLevel_any b s n _ _ _ D W (q1.below hW) HDD.out.1 HDD.out.2
    have HQ2 : Hid (∀ W : World, Below w1.heap.size w1 W → Tq ((W.setCell ⟨g2, k * 2, none⟩ (.int .i64 ((D.length : Int) - 1))).setCell ⟨g2, k * 2 + 1, none⟩ (.int .i64 r)) b s n (A.set k (1)) ((B.set (k * 2) ((D.length : Int) - 1)).set (k * 2 + 1) r) C D ∧ Mv w1 b s ((W.setCell ⟨g2, k * 2, none⟩ (.int .i64 ((D.length : Int) - 1))).setCell ⟨g2, k * 2 + 1, none⟩ (.int .i64 r)) s) := fun W hW => by
      obtain ⟨p1, o1⟩ := (q1.below hW).setF HEF.out (k := k * 2) (by omega) ((D.length : Int) - 1)
      obtain ⟨p2, o2⟩ := p1.setF HEF.out (k := k * 2 + 1) (by omega) r
      exact ⟨p2, ((Mv.below hW).trans o1).trans o2⟩
    have HM1 : Hid (Mv w' b s w1 s) := m1
    clear q1 m1 HQ1 hf1 v0 z0 c0
    generalize hlev : ((D.length : Int) - 1) = lev at *
    have HLEV : Hid (((D.length : Int) - 1) = lev) := hlev
    clear hlev
    have hwr : IntKind.i64.wrap (k : Int) = k := by rw [IntKind.wrap_i64]; omega
    go_region_law (go_simp; go_at_call 17; refine (HLv.out _ (by first | exact Below.refl _ _ | exact (Below.refl _ _).drew)).mono ?_; intro e w9 hh; rw [hh.1, hh.2]; clear hh e w9; dsimp only)
    all_goals
      obtain ⟨q2, m2⟩ := HQ2.out _ (Below.refl w1.heap.size w1)
      have q2 := q2.below (Below.refl _ _).drew
      have m2 := m2.trans (Mv.below (Below.refl _ _).drew)
      generalize ((w1.setCell ⟨g2, k * 2, none⟩ (.int .i64 lev)).setCell ⟨g2, k * 2 + 1, none⟩ (.int .i64 r)).drew = w2 at *
      have q3 := q2.below (below_box w2 (.cells #[.int .i64 l] 3))
      have HM2 : Hid (Mv w' b s (w2.alloc (.cells #[.int .i64 l] 3)) s) := (HM1.out.trans m2).trans (Mv.below (below_box w2 (.cells #[.int .i64 l] 3)))
      have HR1 : Hid (Rd (w2.alloc (.cells #[.int .i64 l] 3)) (.slice (some ⟨w2.heap.size, 0, none⟩) 1 1) [l]) := rd_one' w2 l
      have HQ3 : Hid (Tq (w2.alloc (.cells #[.int .i64 l] 3)) b s n _ _ C D) := q3
      have k2 := q2.box.c2
      clear q2 q3 m2 HQ2 HLv f0 f1 z1 z2 c1 HM1
      generalize hsR : s.R = sR at *
      go_wp2_with (at_builtin; refine wpList_app_rd rfl _ _ rfl 0 sR (.slice (some ⟨w2.heap.size, 0, none⟩) 1 1) C [l] rfl rfl (by rw [← hsR]; exact HQ3.out.r) HR1.out (by have := HC.out; simp; omega) (Nat.zero_le _) ?_; intro v8 w8 own8 ap8; obtain ⟨a8, c8, hv8⟩ := own_form own8; simp only [List.length_append, List.length_cons, List.length_nil, Nat.zero_add] at hv8; subst hv8; have A8 := HQ3.out.putR (by rw [hsR]; exact ap8.grown) (by rw [hsR]; exact ap8.new) own8; have p0 := (HQ3.out.box.kept ap8.grown (by rw [← hsR]; exact HQ3.out.box.not_row (by decide) HQ3.out.r)).c2; have p1 := (HQ3.out.box.kept ap8.grown (by rw [← hsR]; exact HQ3.out.box.not_row (by decide) HQ3.out.r)).fz 2; have F8 : Hid (_ ∧ _) := A8; clear A8 own8 ap8)
      go_end0
      exact ⟨rfl, _, by rw [HLEV.out]; exact F8.out.1, HM2.out.trans F8.out.2⟩
end Go.Proofs.Ytjcgfigbbbefcaa
